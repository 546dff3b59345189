/- Rounds: the model's search goes on. -/
import Derived.Test.YtfgolkbafnfblaaRndH
import Derived.Test.YtfgolkbafnfblaaGA
namespace Go.Proofs.Ytfgolkbafnfblaa
open Go.RowKit Go.Shelf
set_option linter.unusedVariables false
attribute [local go_sem] Oper.semAt_some
/-- What the places below v have brought. -/
def goneN (n s m a met most v : Nat) : Nat := min (sumTo (brN n s m a met) v) most
theorem gone_no (n s m a met most v : Nat) (h : brN n s m a met v = 0) : goneN n s m a met most (v + 1) = goneN n s m a met most v := by
  unfold goneN
  show min (sumTo _ v + brN n s m a met v) most = _
  rw [h, Nat.add_zero]
theorem gone_yes (n s m a met most v : Nat) (h : goneN n s m a met most v < most) : goneN n s m a met most v + min (brN n s m a met v) (most - goneN n s m a met most v) = goneN n s m a met most (v + 1) := by
  unfold goneN at *
  show _ = min (sumTo _ v + brN n s m a met v) most
  omega
theorem gone_end (n s m a met most v : Nat) (hv : v ≤ n) (h : n ≤ v ∨ most ≤ goneN n s m a met most v) : goneN n s m a met most v = min (cntN n s (m + 1) a met) most := by
  rw [cnt_succ]
  rcases h with h | h
  · obtain rfl : v = n := by omega
    rfl
  · unfold goneN at *
    have := sum_more (brN n s m a met) v n hv
    omega
theorem gone_one (n s m a met most : Nat) : goneN n s m a met most 1 = 0 := by
  unfold goneN
  have : brN n s m a met 0 = 0 := rfl
  show min (0 + brN n s m a met 0) most = 0
  rw [this]
  exact Nat.zero_min _
theorem fst_one (n s m a met : Nat) : fstTo (bfN n s m a met) 1 = none := rfl
theorem fst_same (n s m a met v : Nat) (h : brN n s m a met v = 0) : fstTo (bfN n s m a met) (v + 1) = fstTo (bfN n s m a met) v := by
  show (match fstTo (bfN n s m a met) v with | some l => some l | none => bfN n s m a met v) = _
  rw [(br_none n s m a met v).2 h]
  cases fstTo (bfN n s m a met) v <;> rfl
theorem gone_zero (n s m a met most v : Nat) (hm : 1 ≤ most) : goneN n s m a met most v = 0 ↔ fstTo (bfN n s m a met) v = none := by
  rw [fst_none (bfN n s m a met) (brN n s m a met) (br_none n s m a met)]
  unfold goneN
  omega
theorem fst_end (n s m a met most v : Nat) (hv : v ≤ n) (hm : 1 ≤ most) (h : n ≤ v ∨ most ≤ goneN n s m a met most v) : fstTo (bfN n s m a met) v = firN n s (m + 1) a met := by
  rw [fir_succ]
  rcases h with h | h
  · obtain rfl : v = n := by omega
    rfl
  · cases hf : fstTo (bfN n s m a met) v with
    | none => have := (gone_zero n s m a met most v hm).2 hf; omega
    | some l => exact (fst_here _ v n hv l hf).symm
/-- What a branch tells. -/
theorem bf_put (n s m a met v : Nat) (xs : List Int) (h : mayN n s a met v = true) : putF xs (bfN n s m a met v) = putF (xs ++ [(v : Int)]) (firN n s m v (met ||| 2 ^ v)) ∧ brN n s m a met v = cntN n s m v (met ||| 2 ^ v) := by
  unfold bfN brN
  rw [if_pos h, if_pos h]
  refine ⟨?_, rfl⟩
  cases firN n s m v (met ||| 2 ^ v) with
  | none => rfl
  | some l => show xs ++ ((v : Int) :: l) = (xs ++ [(v : Int)]) ++ l; simp
/-- One number alone, written out. -/
theorem lit_one (W : World) (N : Nat) (r : Int) (h : N ≤ W.heap.size) : IsInts (W.alloc (.cells #[.int .i64 r] 3)) N (.slice (some ⟨W.heap.size, 0, none⟩) 1 1) [r] :=
  ⟨rfl, .inr ⟨W.heap.size, 1, #[.int .i64 r], rfl, h, heap_alloc_new W _, Nat.le_refl _, by simp [maxLen], rfl, rfl⟩⟩
theorem apart_gh {g h l c l' c' : Nat} (hne : g ≠ h) : (Value.slice (some ⟨g, 0, none⟩) l c).ownBlock = none ∨ (Value.slice (some ⟨g, 0, none⟩) l c).ownBlock ≠ (Value.slice (some ⟨h, 0, none⟩) l' c').ownBlock := .inr (fun e => by
  have e2 : some g = some h := e
  injection e2 with e2
  exact hne e2)
theorem far_g {g N l c : Nat} (h : g < N) : ∀ k, (Value.slice (some ⟨g, 0, none⟩) l c).ownBlock = some k → k < N := fun k hk => by
  have e2 : some g = some k := hk
  injection e2 with e2
  omega
theorem far_block {v : Value} {N h : Nat} (hv : ∀ k, v.ownBlock = some k → k < N) (hh : N ≤ h) : v.ownBlock = none ∨ v.ownBlock ≠ some h := by
  cases e : v.ownBlock with
  | none => exact .inl rfl
  | some k =>
    refine .inr fun e2 => ?_
    injection e2 with e2
    have := hv k e
    omega
theorem far_block2 {v a : Value} {N : Nat} (hv : ∀ k, v.ownBlock = some k → k < N) (ha : ∀ k, a.ownBlock = some k → N ≤ k) : v.ownBlock = none ∨ v.ownBlock ≠ a.ownBlock := by
  cases e : v.ownBlock with
  | none => exact .inl rfl
  | some k =>
    refine .inr fun e2 => ?_
    have h1 := hv k e
    have h2 := ha k e2.symm
    omega
/-- A list is appended to a list of one's own; all else that is apart from it stays. -/
theorem wp_append_any {o : Oper} {act : Act} {K : Act → World → Prop} {Q : Exit → Act → World → Prop} (s x : Operand) (ho : o.op = .call { callee := .builtin .append, args := #[s, x], argTypes := #[23, 23] })
    (a : Value) (ys xs : List Int) (W : World) (N g cap b : Nat) (hs : act.eval s = a) (hx : act.eval x = .slice (some ⟨g, 0, none⟩) xs.length cap) (hO : IsInts W N a ys) (hX : IsInts W b (.slice (some ⟨g, 0, none⟩) xs.length cap) xs)
    (hl : ys.length + xs.length ≤ 1000) (hN : N ≤ W.heap.size)
    (h : ∀ (v' : Value) (w1 : World), IsInts w1 N v' (ys ++ xs) → (∀ (v : Value) (zs : List Int) (N' : Nat), IsInts W N' v zs → (v.ownBlock = none ∨ v.ownBlock ≠ a.ownBlock) → IsInts w1 N' v zs) →
      (∀ (B : Nat) (w0 : World), B ≤ N → Below B w0 W → Below B w0 w1) → W.heap.size ≤ w1.heap.size → K (act.put o.dst v') w1) : o.wp Try.prog act W K Q := by
  obtain ⟨i0, hi, hz0, hz1, hz2⟩ := info_parts Try.infoQ
  have hc1 := World.ownsRow.cells hX (g := g) rfl
  have hc2 : ∀ u ∈ xs.map (Value.int .i64), u.oneCell' = true := by
    intro u hu
    obtain ⟨z, _, rfl⟩ := List.mem_map.1 hu
    rfl
  have hc3 : ys.length + xs.length ≤ maxLen := by unfold maxLen; omega
  have hbs : ∀ k, a.ownBlock = some k → N ≤ k := fun k hk => (World.ownsRow.lt hO k hk).1
  refine wp_append_own W s x 23 ho N 3 i0 (.int .i64 0) 1 8 Try.underlying23 hi hz0 hz1 hz2 rfl (by decide) a ys.length _ hs hO ⟨g, 0, none⟩ xs.length cap (xs.map (Value.int .i64)) hx (by simp) hc1 hc2 hc3 (by omega) hN fun v' w1 hown' hgrow hiff => ?_
  refine h v' w1 ?_ (fun v zs N' hy hg => World.ownsRow.kept hy hgrow hg) (fun B w0 hB hb => hb.grown hgrow (Nat.le_trans hB hN) (fun k hk => Nat.le_trans hB (hbs k hk))) hgrow.size
  unfold IsInts
  rw [List.length_append, List.map_append]
  exact hown'
/-- What the first list becomes. -/
theorem fst_case (n s m a met most v c : Nat) (xs : List Int) (hm : 1 ≤ most) (hc : goneN n s m a met most v = c) (hmay : mayN n s a met v = true) (hcm : c < most) :
    ((c = 0 ∧ 0 < min (brN n s m a met v) (most - c)) → putF xs (fstTo (bfN n s m a met) (v + 1)) = putF (xs ++ [(v : Int)]) (firN n s m v (met ||| 2 ^ v))) ∧
    (¬ (c = 0 ∧ 0 < min (brN n s m a met v) (most - c)) → putF xs (fstTo (bfN n s m a met) (v + 1)) = putF xs (fstTo (bfN n s m a met) v)) := by
  obtain ⟨b1, b2⟩ := bf_put n s m a met v xs hmay
  have hz := gone_zero n s m a met most v hm
  rw [hc] at hz
  constructor
  · rintro ⟨h0, hk⟩
    rw [fst_new _ _ (hz.1 h0), b1]
  · intro h
    by_cases h0 : c = 0
    · have hq : brN n s m a met v = 0 := by
        refine Decidable.byContradiction fun hq => h ⟨h0, ?_⟩
        omega
      rw [fst_same n s m a met v hq]
    · cases hf : fstTo (bfN n s m a met) v with
      | none => exact absurd (hz.2 hf) h0
      | some l => rw [fst_here _ v (v + 1) (by omega) l hf]
set_option maxHeartbeats 16000000 in
theorem l5Go_succ (m n s a met most b g cap : Nat) (xs : List Int) (w : World) (h1 : 1 ≤ n) (h2 : n ≤ 12) (hs : s < 2 ^ n) (hl : xs.length + (m + 1) = n) (hl1 : 1 ≤ xs.length) (ha : xs.getD (xs.length - 1) 0 = (a : Int)) (han : a < n) (hmt : met < 2 ^ n) (hm : 1 ≤ most) (hm2 : most ≤ 100000)
    (hI : IsInts w b (.slice (some ⟨g, 0, none⟩) xs.length cap) xs) (hb : b ≤ w.heap.size)
    (IH : ∀ (v met' most' b' g' cap' : Nat) (W : World), v < n → met' < 2 ^ n → 1 ≤ most' → most' ≤ 100000 → IsInts W b' (.slice (some ⟨g', 0, none⟩) (xs ++ [(v : Int)]).length cap') (xs ++ [(v : Int)]) → b' ≤ W.heap.size →
      Calls Try.prog 52 #[.int .i64 (n:Int), .int .i64 (s:Int), .slice (some ⟨g', 0, none⟩) (xs ++ [(v : Int)]).length cap', .int .i64 (met':Int), .int .i64 (most':Int)] W (GoPost n s m v met' most' b' (xs ++ [(v : Int)]) W)) :
    Calls Try.prog 52 #[.int .i64 (n:Int), .int .i64 (s:Int), .slice (some ⟨g, 0, none⟩) xs.length cap, .int .i64 (met:Int), .int .i64 (most:Int)] w (GoPost n s (m + 1) a met most b xs w) := by
  have hmx : Try.prog.follows .mixedOrders = true := by kernel_rfl
  have hpw := pow_le n h2
  have c0 := hI.cell (i := xs.length - 1) (by omega)
  rw [ha] at c0
  have HI := Lib.hid hI
  have HIH := Lib.hid IH
  have HG1 := Lib.hid (gone_one n s m a met most)
  have HF1 := Lib.hid (fst_one n s m a met)
  have hgl := (World.ownsRow.lt hI g rfl).2
  have HLs : Hid (([] : List Int).length + xs.length ≤ 1000) := Lib.hid (by simp; omega)
  have HLs2 : Hid (∀ v : Nat, xs.length + [(v : Int)].length ≤ 1000) := Lib.hid (fun v => by simp; omega)
  obtain ⟨L, hL⟩ : ∃ L, xs.length = L := ⟨_, rfl⟩
  rw [hL] at HI c0 hl hl1 ⊢
  have HL := Lib.hid hL
  obtain ⟨J, hJe⟩ : ∃ J, L - 1 = J := ⟨_, rfl⟩
  rw [hJe] at c0
  have j1 : (L : Int) - 1 = (J : Int) := by omega
  have j2 : IntKind.i64.wrap ((L : Int) - 1) = (J : Int) := by rw [j1]; exact IntWalk.i64_in _ ⟨by omega, by omega⟩
  have j3 : wrap64 ((L : Int) - 1) = (J : Int) := by rw [j1]; exact IntWalk.wrap64_in _ ⟨by omega, by omega⟩
  have i1 : (0 : Int) ≤ (J : Int) := by omega
  have i2 : (J : Int) < (L : Int) := by omega
  have e1 : ((L : Int) == (n : Int)) = false := by simp; omega
  clear hI ha hL hJe IH
  go_enter Try.func52, Try.ntmps52
  go_wp2
  have HI0 := Lib.hid (HI.out.belowAll ((Below.refl w.heap.size w).alloc (Nat.le_refl _) (.cells #[] 3)))
  have HO0 := Lib.hid ((nil_made w w.heap.size (Nat.le_refl _)).base hb)
  have HB0 := Lib.hid ((Below.refl w.heap.size w).alloc (Nat.le_refl _) (.cells #[] 3))
  have HSh : Hid (∀ r, bits .and .i64 ((s : Int) / 2 ^ r) 1 = ((b2n (s.testBit r) : Nat) : Int)) := Lib.hid (fun r => by
    cases hbb : s.testBit r
    · exact bit_none (by omega) hbb
    · exact bit_one (by omega) hbb)
  have HMs : Hid (∀ r, bits .and .i64 ((met : Int) / 2 ^ r) 1 = ((b2n (met.testBit r) : Nat) : Int)) := Lib.hid (fun r => by
    cases hbb : met.testBit r
    · exact bit_none (by omega) hbb
    · exact bit_one (by omega) hbb)
  have HRe := Lib.hid (fun x W hx => l1Rest_all n x W h1 h2 hx)
  go_loopw [13, 14, 15] (fun cs fs vs wr => ∃ (F : Value) (v c : Nat), F = fs ∧ 1 ≤ v ∧ v ≤ n ∧ c = goneN n s m a met most v ∧ cs = .int .i64 (c : Int) ∧ vs = .int .i64 (v : Int) ∧ IsInts wr b F (putF xs (fstTo (bfN n s m a met) v)) ∧ IsInts wr b (.slice (some ⟨g, 0, none⟩) L cap) xs ∧ Below w.heap.size w wr) (fun _ _ vs _ => n - (intOf vs).toNat)
  case atStart => exact ⟨_, 1, 0, rfl, Nat.le_refl _, h1, HG1.out.symm, rfl, rfl, by rw [HF1.out]; exact HO0.out, HI0.out, HB0.out⟩
  case round =>
    obtain ⟨F, v, c, rfl, hv1, hv, hc, rfl, rfl, hF, hIb, hB⟩ := hrel
    have HC := Lib.hid hc
    have hcl : c ≤ most := by rw [hc]; exact Nat.min_le_right _ _
    have hFlt : ∀ k, F.ownBlock = some k → k < wr.heap.size := fun k hk => (World.ownsRow.lt hF k hk).2
    have hsz := hB.size
    have HFb := Lib.hid hF
    have HIb := Lib.hid hIb
    have HB := Lib.hid hB
    clear hc hF hIb hB HI0 HO0 HB0
    by_cases hgo : v < n ∧ c < most
    · obtain ⟨hlt, hcm⟩ := hgo
      have l1 : (v : Int) < (n : Int) := by omega
      have l2 := decide_eq_true l1
      have l3 : (c : Int) < (most : Int) := by omega
      have l4 := decide_eq_true l3
      have hmb := HMs.out v
      have hrl := rest_lt n ((v : Int) - (a : Int)) h1
      have HRr := Lib.hid (fun W => HRe.out ((v : Int) - (a : Int)) W ⟨by omega, by omega⟩)
      have d1 : IntKind.i64.wrap ((v : Int) - (a : Int)) = (v : Int) - (a : Int) := IntWalk.i64_in _ ⟨by omega, by omega⟩
      have d2 : wrap64 ((v : Int) - (a : Int)) = (v : Int) - (a : Int) := IntWalk.wrap64_in _ ⟨by omega, by omega⟩
      have HMay : Hid (mayN n s a met v = (!met.testBit v && s.testBit (rest n ((v : Int) - (a : Int))))) := Lib.hid (by
        unfold mayN
        rw [decide_eq_false (show ¬ v = 0 by omega)]
        rfl)
      have HBr : Hid (mayN n s a met v = false → brN n s m a met v = 0) := Lib.hid (fun h => by unfold brN; rw [if_neg (by rw [h]; simp)])
      have hst := HSh.out (rest n ((v : Int) - (a : Int)))
      generalize rest n ((v : Int) - (a : Int)) = r at *
      have hr64 : min r 64 = r := by omega
      cases hmv : met.testBit v
      · rw [hmv] at hmb HMay
        cases hsr : s.testBit r
        · rw [hsr] at hst HMay
          have hbr := HBr.out HMay.out
          have HCs := Lib.hid (gone_no n s m a met most v hbr)
          have HFs := Lib.hid (fst_same n s m a met v hbr)
          clear hmv hsr hbr HBr HMay
          go_wp2_with (go_at_call 45; refine (HRr.out _).mono ?_; rintro e w' ⟨rfl, rfl⟩)
          go_roundw
          case rel => exact ⟨_, v + 1, c, rfl, by omega, by omega, by rw [HCs.out]; exact HC.out, rfl, by go_num, by rw [HFs.out]; exact HFb.out, HIb.out, HB.out⟩
          case measure => simp [intOf]; omega
        · rw [hsr] at hst HMay
          have hmay := HMay.out
          have hmay : mayN n s a met v = true := hmay
          clear hmv hsr HBr HMay
          go_wp2_with (go_at_call 45; refine (HRr.out _).mono ?_; rintro e w' ⟨rfl, rfl⟩)
          obtain ⟨b1, b2⟩ := bf_put n s m a met v xs hmay
          have hkk : min (cntN n s m v (met ||| 2 ^ v)) (most - c) = min (brN n s m a met v) (most - c) := by rw [b2]
          have hcn : goneN n s m a met most v = c := HC.out.symm
          have HC2' := gone_yes n s m a met most v (by rw [hcn]; exact hcm)
          rw [hcn] at HC2'
          have HFst' := fst_case n s m a met most v c xs hm hcn hmay hcm
          have HIHv' := fun (b' g' cap' : Nat) (W : World) => HIH.out v (met ||| 2 ^ v) (most - c) b' g' cap' W hlt (Nat.or_lt_two_pow hmt (Nat.pow_lt_pow_right (by omega) hlt)) (by omega) (by omega)
          unfold GoPost at HIHv'
          rw [hkk] at HIHv'
          obtain ⟨L2, hL2⟩ : ∃ L2, (xs ++ [(v : Int)]).length = L2 := ⟨_, rfl⟩
          rw [hL2] at HIHv'
          have HL2 := Lib.hid hL2
          obtain ⟨kk, hkke⟩ : ∃ kk, min (brN n s m a met v) (most - c) = kk := ⟨_, rfl⟩
          rw [hkke] at HC2' HFst' HIHv'
          obtain ⟨c2, hc2⟩ : ∃ c2, c + kk = c2 := ⟨_, rfl⟩
          rw [hc2] at HC2'
          have HC2 : Hid (c2 = goneN n s m a met most (v + 1)) := Lib.hid HC2'
          have hc2l : c2 ≤ most := by rw [HC2']; exact Nat.min_le_right _ _
          have HFst := Lib.hid HFst'
          obtain ⟨mo, hmo⟩ : ∃ mo, most - c = mo := ⟨_, rfl⟩
          obtain ⟨mt, hmt2⟩ : ∃ mt, met ||| 2 ^ v = mt := ⟨_, rfl⟩
          have hwi := with_nat met v (by omega) (by omega)
          have hwj : bits .or .i64 (met : Int) (IntKind.i64.wrap (2 ^ v)) = ((met ||| 2 ^ v : Nat) : Int) := by rw [IntWalk.i64_left]; exact hwi
          rw [hmo, hmt2] at HIHv'
          rw [hmt2] at hwi hwj HFst
          have HIHv := Lib.hid HIHv'
          have m1 : (most : Int) - (c : Int) = (mo : Int) := by omega
          have m2 : IntKind.i64.wrap ((most : Int) - (c : Int)) = (mo : Int) := by rw [m1]; exact IntWalk.i64_in _ ⟨by omega, by omega⟩
          have m3 : wrap64 ((most : Int) - (c : Int)) = (mo : Int) := by rw [m1]; exact IntWalk.wrap64_in _ ⟨by omega, by omega⟩
          have s1 : (c : Int) + (kk : Int) = (c2 : Int) := by omega
          have s2 : IntKind.i64.wrap ((c : Int) + (kk : Int)) = (c2 : Int) := by rw [s1]; exact IntWalk.i64_in _ ⟨by omega, by omega⟩
          have s3 : wrap64 ((c : Int) + (kk : Int)) = (c2 : Int) := by rw [s1]; exact IntWalk.wrap64_in _ ⟨by omega, by omega⟩
          clear hL2 b1 b2 hkk hkke hcn HC2' HFst' HIHv' hmo hmt2 m1 s1 hc2 hmay
          go_wp2
          have HB := Lib.hid HB.out.drew
          have HIb := Lib.hid (HIb.out.belowAll (Below.refl _ wr).drew)
          have HFb := Lib.hid (HFb.out.belowAll (Below.refl _ wr).drew)
          obtain ⟨N0, hN0⟩ : ∃ N0, wr.heap.size = N0 := ⟨_, rfl⟩
          have hz0 : w.heap.size ≤ N0 := by rw [← hN0]; exact hsz
          have hbN : b ≤ N0 := Nat.le_trans hb hz0
          have hgN : g < N0 := Nat.lt_of_lt_of_le hgl hz0
          have hFl : ∀ k, F.ownBlock = some k → k < N0 := fun k hk => by rw [← hN0]; exact hFlt k hk
          have hzW : N0 ≤ wr.drew.heap.size := Nat.le_of_eq hN0.symm
          refine wp_region_held_drew (S := fun _ => True) hmx trivial (fun _ => ?_)
          generalize wr.drew = W3 at *
          clear hN0 hsz hFlt
          refine take1 0 (v := ?_) rfl (by kernel_rfl) (by kernel_rfl) (by kernel_rfl) (fun _ _ _ h => h) (by rfl) ?_ trivial ?_
          rotate_left
          · intro W9 hA
            clear hA
            go_simp
            try with_reducible rfl
          try simp only [Act.put, List.setIfInBounds_toArray, List.set_cons_zero, List.set_cons_succ]
          refine take1 1 (v := ?_) rfl (by kernel_rfl) (by kernel_rfl) (by kernel_rfl) (fun _ _ _ h => h) (by rfl) ?_ trivial ?_
          rotate_left
          · intro W9 hA
            clear hA
            go_simp
            try with_reducible rfl
          try simp only [Act.put, List.setIfInBounds_toArray, List.set_cons_zero, List.set_cons_succ]
          refine take1 3 (v := ?_) rfl (by kernel_rfl) (by kernel_rfl) (by kernel_rfl) (fun _ _ _ h => h) (by rfl) ?_ trivial ?_
          rotate_left
          · intro W9 hA
            clear hA
            go_simp
            try with_reducible rfl
          try simp only [Act.put, List.setIfInBounds_toArray, List.set_cons_zero, List.set_cons_succ]
          refine take1 5 (v := ?_) rfl (by kernel_rfl) (by kernel_rfl) (by kernel_rfl) (fun _ _ _ h => h) (by rfl) ?_ trivial ?_
          rotate_left
          · intro W9 hA
            clear hA
            go_simp
            try with_reducible rfl
          try simp only [Act.put, List.setIfInBounds_toArray, List.set_cons_zero, List.set_cons_succ]
          refine take1 8 (v := ?_) rfl (by kernel_rfl) (by kernel_rfl) (by kernel_rfl) (fun _ _ _ h => h) (by rfl) ?_ trivial ?_
          rotate_left
          · intro W9 hA
            clear hA
            go_simp
            try with_reducible rfl
          try simp only [Act.put, List.setIfInBounds_toArray, List.set_cons_zero, List.set_cons_succ]
          refine take1 9 (v := ?_) rfl (by kernel_rfl) (by kernel_rfl) (by kernel_rfl) (fun _ _ _ h => h) (by rfl) ?_ trivial ?_
          rotate_left
          · intro W9 hA
            clear hA
            go_simp
            try with_reducible rfl
          try simp only [Act.put, List.setIfInBounds_toArray, List.set_cons_zero, List.set_cons_succ]
          refine take1 10 (v := ?_) rfl (by kernel_rfl) (by kernel_rfl) (by kernel_rfl) (fun _ _ _ h => h) (by rfl) ?_ trivial ?_
          rotate_left
          · intro W9 hA
            clear hA
            go_simp
            try with_reducible rfl
          try simp only [Act.put, List.setIfInBounds_toArray, List.set_cons_zero, List.set_cons_succ]
          refine take1 11 (v := ?_) rfl (by kernel_rfl) (by kernel_rfl) (by kernel_rfl) (fun _ _ _ h => h) (by rfl) ?_ trivial ?_
          rotate_left
          · intro W9 hA
            clear hA
            go_simp
            try with_reducible rfl
          try simp only [Act.put, List.setIfInBounds_toArray, List.set_cons_zero, List.set_cons_succ]
          refine take1 12 (v := ?_) rfl (by kernel_rfl) (by kernel_rfl) (by kernel_rfl) (fun _ _ _ h => h) (by rfl) ?_ trivial ?_
          rotate_left
          · intro W9 hA
            clear hA
            go_simp
            try with_reducible rfl
          try simp only [Act.put, List.setIfInBounds_toArray, List.set_cons_zero, List.set_cons_succ]
          refine take1 13 (v := ?_) rfl (by kernel_rfl) (by kernel_rfl) (by kernel_rfl) (fun _ _ _ h => h) (by rfl) ?_ trivial ?_
          rotate_left
          · intro W9 hA
            clear hA
            go_simp
            try with_reducible rfl
          try simp only [Act.put, List.setIfInBounds_toArray, List.set_cons_zero, List.set_cons_succ]
          refine take1 14 (v := ?_) rfl (by kernel_rfl) (by kernel_rfl) (by kernel_rfl) (fun _ _ _ h => h) (by rfl) ?_ trivial ?_
          rotate_left
          · intro W9 hA
            clear hA
            go_simp
            try with_reducible rfl
          try simp only [Act.put, List.setIfInBounds_toArray, List.set_cons_zero, List.set_cons_succ]
          refine step2 2 6 (by kernel_rfl) rfl rfl (fun K hK => ?_) (fun K hK => ?_)
          · go_simp
            obtain ⟨h1, hh1⟩ : ∃ h1, W3.heap.size = h1 := ⟨_, rfl⟩
            have hNh1 : N0 ≤ h1 := by omega
            have HX1 := Lib.hid (nil_made W3 N0 hzW)
            rw [hh1] at HX1
            have HB := Lib.hid (HB.out.alloc (Nat.le_trans hz0 hzW) (.cells #[] 3))
            have HIb := Lib.hid (show IsInts (W3.alloc (.cells #[] 3)) b (.slice (some ⟨g, 0, none⟩) L cap) xs from World.ownsRow.alloc HIb.out _)
            have HFb := Lib.hid (show IsInts (W3.alloc (.cells #[] 3)) b F (putF xs (fstTo (bfN n s m a met) v)) from World.ownsRow.alloc HFb.out _)
            have hsz9 : (W3.alloc (.cells #[] 3)).heap.size = W3.heap.size + 1 := by simp
            obtain ⟨W4, hW4⟩ : ∃ W4, W3.alloc (.cells #[] 3) = W4 := ⟨_, rfl⟩
            rw [hW4] at HB HIb HFb hsz9 HX1 ⊢
            clear hW4
            rw [hh1] at hsz9 ⊢
            have hzW : N0 ≤ W4.heap.size := by omega
            clear hh1 hsz9
            refine hK.out _ _ trivial ?_
            clear hK K
            try simp only [Act.put, List.setIfInBounds_toArray, List.set_cons_zero, List.set_cons_succ]
            refine step2 4 6 (by kernel_rfl) rfl rfl (fun K hK => ?_) (fun K hK => ?_)
            · rw [if_pos (by rfl)]
              refine wp_append_any (.tmp 68) (.tmp 69) rfl (.slice (some ⟨h1, 0, none⟩) 0 0) [] xs W4 N0 g cap b rfl (by rw [HL.out]; rfl) HX1.out (by rw [HL.out]; exact HIb.out) HLs.out hzW (fun v2 W5 hX2 hkeep hbelow hgrows => ?_)
              have HX2 := Lib.hid hX2
              rw [List.nil_append] at HX2
              have HIb := Lib.hid (hkeep _ _ _ HIb.out (apart_gh (Nat.ne_of_lt (Nat.lt_of_lt_of_le hgN hNh1))))
              have HFb := Lib.hid (hkeep _ _ _ HFb.out (far_block (fun k hk => hFl k hk) hNh1))
              have HB := Lib.hid (hbelow _ _ hz0 HB.out)
              have hzW := Nat.le_trans hzW hgrows
              clear hX2 hkeep hbelow hgrows HX1
              refine hK.out _ _ trivial ?_
              clear hK K
              try simp only [Act.put, List.setIfInBounds_toArray, List.set_cons_zero, List.set_cons_succ]
              refine step1 6 (by kernel_rfl) rfl (fun K hK => ?_)
              go_simp
              obtain ⟨h6, hh6⟩ : ∃ h6, W5.heap.size = h6 := ⟨_, rfl⟩
              have hNh6 : N0 ≤ h6 := by omega
              have HXv := Lib.hid (lit_one W5 N0 (v : Int) hzW)
              rw [hh6] at HXv
              have HB := Lib.hid (HB.out.alloc (Nat.le_trans hz0 hzW) (.cells #[.int .i64 (v : Int)] 3))
              have HIb := Lib.hid (show IsInts (W5.alloc (.cells #[.int .i64 (v : Int)] 3)) b (.slice (some ⟨g, 0, none⟩) L cap) xs from World.ownsRow.alloc HIb.out _)
              have HFb := Lib.hid (show IsInts (W5.alloc (.cells #[.int .i64 (v : Int)] 3)) b F (putF xs (fstTo (bfN n s m a met) v)) from World.ownsRow.alloc HFb.out _)
              have HX2 := Lib.hid (show IsInts (W5.alloc (.cells #[.int .i64 (v : Int)] 3)) N0 v2 xs from World.ownsRow.alloc HX2.out _)
              have hsz9 : (W5.alloc (.cells #[.int .i64 (v : Int)] 3)).heap.size = W5.heap.size + 1 := by simp
              obtain ⟨W6, hW6⟩ : ∃ W6, W5.alloc (.cells #[.int .i64 (v : Int)] 3) = W6 := ⟨_, rfl⟩
              rw [hW6] at HB HIb HFb hsz9 HX2 HXv ⊢
              clear hW6
              rw [hh6] at hsz9 ⊢
              have hzW : N0 ≤ W6.heap.size := by omega
              clear hh6 hsz9
              refine hK.out _ _ trivial ?_
              clear hK K
              try simp only [Act.put, List.setIfInBounds_toArray, List.set_cons_zero, List.set_cons_succ]
              refine step1 7 (by kernel_rfl) rfl (fun K hK => ?_)
              rw [if_pos (by rfl)]
              have hd2 : (Value.slice (some ⟨h6, 0, none⟩) 1 1).ownBlock = none ∨ True := .inr trivial
              refine wp_append_any (.tmp 70) (.tmp 72) rfl v2 xs [(v : Int)] W6 N0 h6 1 N0 rfl rfl HX2.out HXv.out (HLs2.out v) hzW (fun v3 W7 hX3 hkeep hbelow hgrows => ?_)
              have HX3 := Lib.hid hX3
              have HIb := Lib.hid (hkeep _ _ _ HIb.out (far_block2 (N := N0) (far_g hgN) (fun k hk => (World.ownsRow.lt HX2.out k hk).1)))
              have HFb := Lib.hid (hkeep _ _ _ HFb.out (far_block2 (N := N0) (fun k hk => hFl k hk) (fun k hk => (World.ownsRow.lt HX2.out k hk).1)))
              have HB := Lib.hid (hbelow _ _ hz0 HB.out)
              have hzW := Nat.le_trans hzW hgrows
              clear hX3 hkeep hbelow hgrows HX2 HXv
              refine hK.out _ _ trivial ?_
              clear hK K
              try simp only [Act.put, List.setIfInBounds_toArray, List.set_cons_zero, List.set_cons_succ]
              rcases HX3.out.shape with ⟨_, e⟩ | ⟨g3, cap3, hv3, hg31, hg32, hg33⟩
              · exact absurd e (by simp)
              rw [HL2.out] at hv3
              subst hv3
              refine step1 15 (by kernel_rfl) rfl (fun K hK => ?_)
              go_simp
              refine (HIHv.out N0 g3 cap3 _ HX3.out hzW).mono ?_
              rintro e W9 ⟨sv, rfl, hb9, hI9⟩
              have HSv := Lib.hid hI9
              have HIb := Lib.hid (HIb.out.belowAll hb9)
              have HFb := Lib.hid (HFb.out.belowAll hb9)
              have HB := Lib.hid (HB.out.trans (hb9.mono HB.out.size))
              clear hb9 hI9 hg33 HX3
              go_wp2_with fail
              refine hK.out _ _ trivial ?_
              clear hK K
              try simp only [Act.put, List.setIfInBounds_toArray, List.set_cons_zero, List.set_cons_succ]
              refine take1 16 (v := ?_) rfl (by kernel_rfl) (by kernel_rfl) (by kernel_rfl) (fun _ _ _ h => h) (by rfl) ?_ trivial ?_
              rotate_left
              · intro W9 hA
                clear hA
                go_simp
                try with_reducible rfl
              try simp only [Act.put, List.setIfInBounds_toArray, List.set_cons_zero, List.set_cons_succ]
              refine take1 17 (v := ?_) rfl (by kernel_rfl) (by kernel_rfl) (by kernel_rfl) (fun _ _ _ h => h) (by rfl) ?_ trivial ?_
              rotate_left
              · intro W9 hA
                clear hA
                go_simp
                try with_reducible rfl
              try simp only [Act.put, List.setIfInBounds_toArray, List.set_cons_zero, List.set_cons_succ]
              refine take1 18 (v := ?_) rfl (by kernel_rfl) (by kernel_rfl) (by kernel_rfl) (fun _ _ _ h => h) (by rfl) ?_ trivial ?_
              rotate_left
              · intro W9 hA
                clear hA
                go_simp
                try with_reducible rfl
              try simp only [Act.put, List.setIfInBounds_toArray, List.set_cons_zero, List.set_cons_succ]
              refine take1 19 (v := ?_) rfl (by kernel_rfl) (by kernel_rfl) (by kernel_rfl) (fun _ _ _ h => h) (by rfl) ?_ trivial ?_
              rotate_left
              · intro W9 hA
                clear hA
                go_simp
                try with_reducible rfl
              try simp only [Act.put, List.setIfInBounds_toArray, List.set_cons_zero, List.set_cons_succ]
              refine take1 20 (v := ?_) rfl (by kernel_rfl) (by kernel_rfl) (by kernel_rfl) (fun _ _ _ h => h) (by rfl) ?_ trivial ?_
              rotate_left
              · intro W9 hA
                clear hA
                go_simp
                try with_reducible rfl
              try simp only [Act.put, List.setIfInBounds_toArray, List.set_cons_zero, List.set_cons_succ]
              refine stop1 (by kernel_rfl) ?_
              by_cases hc0 : c = 0
              · by_cases hk0 : 0 < kk
                · have HFs := Lib.hid (HFst.out.1 ⟨hc0, hk0⟩)
                  have b1 : ((c : Int) == 0) = true := by simp [hc0]
                  have b2 : (0 : Int) < (kk : Int) := by omega
                  have b3 := decide_eq_true b2
                  clear hc0 hk0 HFst
                  go_wp2
                  go_roundw
                  case rel => exact ⟨_, v + 1, c2, rfl, by omega, by omega, HC2.out, rfl, by go_num, by rw [HFs.out]; exact HSv.out.base hbN, HIb.out, HB.out⟩
                  case measure => simp [intOf]; omega
                · have HFs := Lib.hid (HFst.out.2 (fun h => hk0 h.2))
                  have b1 : ((c : Int) == 0) = true := by simp [hc0]
                  have b2 : ¬ (0 : Int) < (kk : Int) := by omega
                  have b3 := decide_eq_false b2
                  clear hc0 hk0 HFst
                  go_wp2
                  go_roundw
                  case rel => exact ⟨_, v + 1, c2, rfl, by omega, by omega, HC2.out, rfl, by go_num, by rw [HFs.out]; exact HFb.out, HIb.out, HB.out⟩
                  case measure => simp [intOf]; omega
              · have HFs := Lib.hid (HFst.out.2 (fun h => hc0 h.1))
                have b1 : ((c : Int) == 0) = false := by simp; omega
                clear hc0 HFst
                go_wp2
                go_roundw
                case rel => exact ⟨_, v + 1, c2, rfl, by omega, by omega, HC2.out, rfl, by go_num, by rw [HFs.out]; exact HFb.out, HIb.out, HB.out⟩
                case measure => simp [intOf]; omega
            · go_simp
              obtain ⟨h6, hh6⟩ : ∃ h6, W4.heap.size = h6 := ⟨_, rfl⟩
              have hNh6 : N0 ≤ h6 := by omega
              have HXv := Lib.hid (lit_one W4 N0 (v : Int) hzW)
              rw [hh6] at HXv
              have hne16 : h1 ≠ h6 := by have := (World.ownsRow.lt HX1.out h1 rfl).2; omega
              have HB := Lib.hid (HB.out.alloc (Nat.le_trans hz0 hzW) (.cells #[.int .i64 (v : Int)] 3))
              have HIb := Lib.hid (show IsInts (W4.alloc (.cells #[.int .i64 (v : Int)] 3)) b (.slice (some ⟨g, 0, none⟩) L cap) xs from World.ownsRow.alloc HIb.out _)
              have HFb := Lib.hid (show IsInts (W4.alloc (.cells #[.int .i64 (v : Int)] 3)) b F (putF xs (fstTo (bfN n s m a met) v)) from World.ownsRow.alloc HFb.out _)
              have HX1 := Lib.hid (show IsInts (W4.alloc (.cells #[.int .i64 (v : Int)] 3)) N0 (.slice (some ⟨h1, 0, none⟩) 0 0) [] from World.ownsRow.alloc HX1.out _)
              have hsz9 : (W4.alloc (.cells #[.int .i64 (v : Int)] 3)).heap.size = W4.heap.size + 1 := by simp
              obtain ⟨W5, hW5⟩ : ∃ W5, W4.alloc (.cells #[.int .i64 (v : Int)] 3) = W5 := ⟨_, rfl⟩
              rw [hW5] at HB HIb HFb hsz9 HX1 HXv ⊢
              clear hW5
              rw [hh6] at hsz9 ⊢
              have hzW : N0 ≤ W5.heap.size := by omega
              clear hh6 hsz9
              refine hK.out _ _ trivial ?_
              clear hK K
              try simp only [Act.put, List.setIfInBounds_toArray, List.set_cons_zero, List.set_cons_succ]
              refine step1 4 (by kernel_rfl) rfl (fun K hK => ?_)
              rw [if_pos (by rfl)]
              refine wp_append_any (.tmp 68) (.tmp 69) rfl (.slice (some ⟨h1, 0, none⟩) 0 0) [] xs W5 N0 g cap b rfl (by rw [HL.out]; rfl) HX1.out (by rw [HL.out]; exact HIb.out) HLs.out hzW (fun v2 W6 hX2 hkeep hbelow hgrows => ?_)
              have HX2 := Lib.hid hX2
              rw [List.nil_append] at HX2
              have HIb := Lib.hid (hkeep _ _ _ HIb.out (apart_gh (Nat.ne_of_lt (Nat.lt_of_lt_of_le hgN hNh1))))
              have HFb := Lib.hid (hkeep _ _ _ HFb.out (far_block (fun k hk => hFl k hk) hNh1))
              have HXv := Lib.hid (hkeep _ _ _ HXv.out (apart_gh (fun e => hne16 e.symm)))
              have HB := Lib.hid (hbelow _ _ hz0 HB.out)
              have hzW := Nat.le_trans hzW hgrows
              clear hX2 hkeep hbelow hgrows HX1
              refine hK.out _ _ trivial ?_
              clear hK K
              try simp only [Act.put, List.setIfInBounds_toArray, List.set_cons_zero, List.set_cons_succ]
              refine step1 7 (by kernel_rfl) rfl (fun K hK => ?_)
              rw [if_pos (by rfl)]
              have hd2 : (Value.slice (some ⟨h6, 0, none⟩) 1 1).ownBlock = none ∨ True := .inr trivial
              refine wp_append_any (.tmp 70) (.tmp 72) rfl v2 xs [(v : Int)] W6 N0 h6 1 N0 rfl rfl HX2.out HXv.out (HLs2.out v) hzW (fun v3 W7 hX3 hkeep hbelow hgrows => ?_)
              have HX3 := Lib.hid hX3
              have HIb := Lib.hid (hkeep _ _ _ HIb.out (far_block2 (N := N0) (far_g hgN) (fun k hk => (World.ownsRow.lt HX2.out k hk).1)))
              have HFb := Lib.hid (hkeep _ _ _ HFb.out (far_block2 (N := N0) (fun k hk => hFl k hk) (fun k hk => (World.ownsRow.lt HX2.out k hk).1)))
              have HB := Lib.hid (hbelow _ _ hz0 HB.out)
              have hzW := Nat.le_trans hzW hgrows
              clear hX3 hkeep hbelow hgrows HX2 HXv
              refine hK.out _ _ trivial ?_
              clear hK K
              try simp only [Act.put, List.setIfInBounds_toArray, List.set_cons_zero, List.set_cons_succ]
              rcases HX3.out.shape with ⟨_, e⟩ | ⟨g3, cap3, hv3, hg31, hg32, hg33⟩
              · exact absurd e (by simp)
              rw [HL2.out] at hv3
              subst hv3
              refine step1 15 (by kernel_rfl) rfl (fun K hK => ?_)
              go_simp
              refine (HIHv.out N0 g3 cap3 _ HX3.out hzW).mono ?_
              rintro e W9 ⟨sv, rfl, hb9, hI9⟩
              have HSv := Lib.hid hI9
              have HIb := Lib.hid (HIb.out.belowAll hb9)
              have HFb := Lib.hid (HFb.out.belowAll hb9)
              have HB := Lib.hid (HB.out.trans (hb9.mono HB.out.size))
              clear hb9 hI9 hg33 HX3
              go_wp2_with fail
              refine hK.out _ _ trivial ?_
              clear hK K
              try simp only [Act.put, List.setIfInBounds_toArray, List.set_cons_zero, List.set_cons_succ]
              refine take1 16 (v := ?_) rfl (by kernel_rfl) (by kernel_rfl) (by kernel_rfl) (fun _ _ _ h => h) (by rfl) ?_ trivial ?_
              rotate_left
              · intro W9 hA
                clear hA
                go_simp
                try with_reducible rfl
              try simp only [Act.put, List.setIfInBounds_toArray, List.set_cons_zero, List.set_cons_succ]
              refine take1 17 (v := ?_) rfl (by kernel_rfl) (by kernel_rfl) (by kernel_rfl) (fun _ _ _ h => h) (by rfl) ?_ trivial ?_
              rotate_left
              · intro W9 hA
                clear hA
                go_simp
                try with_reducible rfl
              try simp only [Act.put, List.setIfInBounds_toArray, List.set_cons_zero, List.set_cons_succ]
              refine take1 18 (v := ?_) rfl (by kernel_rfl) (by kernel_rfl) (by kernel_rfl) (fun _ _ _ h => h) (by rfl) ?_ trivial ?_
              rotate_left
              · intro W9 hA
                clear hA
                go_simp
                try with_reducible rfl
              try simp only [Act.put, List.setIfInBounds_toArray, List.set_cons_zero, List.set_cons_succ]
              refine take1 19 (v := ?_) rfl (by kernel_rfl) (by kernel_rfl) (by kernel_rfl) (fun _ _ _ h => h) (by rfl) ?_ trivial ?_
              rotate_left
              · intro W9 hA
                clear hA
                go_simp
                try with_reducible rfl
              try simp only [Act.put, List.setIfInBounds_toArray, List.set_cons_zero, List.set_cons_succ]
              refine take1 20 (v := ?_) rfl (by kernel_rfl) (by kernel_rfl) (by kernel_rfl) (fun _ _ _ h => h) (by rfl) ?_ trivial ?_
              rotate_left
              · intro W9 hA
                clear hA
                go_simp
                try with_reducible rfl
              try simp only [Act.put, List.setIfInBounds_toArray, List.set_cons_zero, List.set_cons_succ]
              refine stop1 (by kernel_rfl) ?_
              by_cases hc0 : c = 0
              · by_cases hk0 : 0 < kk
                · have HFs := Lib.hid (HFst.out.1 ⟨hc0, hk0⟩)
                  have b1 : ((c : Int) == 0) = true := by simp [hc0]
                  have b2 : (0 : Int) < (kk : Int) := by omega
                  have b3 := decide_eq_true b2
                  clear hc0 hk0 HFst
                  go_wp2
                  go_roundw
                  case rel => exact ⟨_, v + 1, c2, rfl, by omega, by omega, HC2.out, rfl, by go_num, by rw [HFs.out]; exact HSv.out.base hbN, HIb.out, HB.out⟩
                  case measure => simp [intOf]; omega
                · have HFs := Lib.hid (HFst.out.2 (fun h => hk0 h.2))
                  have b1 : ((c : Int) == 0) = true := by simp [hc0]
                  have b2 : ¬ (0 : Int) < (kk : Int) := by omega
                  have b3 := decide_eq_false b2
                  clear hc0 hk0 HFst
                  go_wp2
                  go_roundw
                  case rel => exact ⟨_, v + 1, c2, rfl, by omega, by omega, HC2.out, rfl, by go_num, by rw [HFs.out]; exact HFb.out, HIb.out, HB.out⟩
                  case measure => simp [intOf]; omega
              · have HFs := Lib.hid (HFst.out.2 (fun h => hc0 h.1))
                have b1 : ((c : Int) == 0) = false := by simp; omega
                clear hc0 HFst
                go_wp2
                go_roundw
                case rel => exact ⟨_, v + 1, c2, rfl, by omega, by omega, HC2.out, rfl, by go_num, by rw [HFs.out]; exact HFb.out, HIb.out, HB.out⟩
                case measure => simp [intOf]; omega
          · go_simp
            obtain ⟨h6, hh6⟩ : ∃ h6, W3.heap.size = h6 := ⟨_, rfl⟩
            have hNh6 : N0 ≤ h6 := by omega
            have HXv := Lib.hid (lit_one W3 N0 (v : Int) hzW)
            rw [hh6] at HXv
            have HB := Lib.hid (HB.out.alloc (Nat.le_trans hz0 hzW) (.cells #[.int .i64 (v : Int)] 3))
            have HIb := Lib.hid (show IsInts (W3.alloc (.cells #[.int .i64 (v : Int)] 3)) b (.slice (some ⟨g, 0, none⟩) L cap) xs from World.ownsRow.alloc HIb.out _)
            have HFb := Lib.hid (show IsInts (W3.alloc (.cells #[.int .i64 (v : Int)] 3)) b F (putF xs (fstTo (bfN n s m a met) v)) from World.ownsRow.alloc HFb.out _)
            have hsz9 : (W3.alloc (.cells #[.int .i64 (v : Int)] 3)).heap.size = W3.heap.size + 1 := by simp
            obtain ⟨W4, hW4⟩ : ∃ W4, W3.alloc (.cells #[.int .i64 (v : Int)] 3) = W4 := ⟨_, rfl⟩
            rw [hW4] at HB HIb HFb hsz9 HXv ⊢
            clear hW4
            rw [hh6] at hsz9 ⊢
            have hzW : N0 ≤ W4.heap.size := by omega
            clear hh6 hsz9
            refine hK.out _ _ trivial ?_
            clear hK K
            try simp only [Act.put, List.setIfInBounds_toArray, List.set_cons_zero, List.set_cons_succ]
            refine step1 2 (by kernel_rfl) rfl (fun K hK => ?_)
            go_simp
            obtain ⟨h1, hh1⟩ : ∃ h1, W4.heap.size = h1 := ⟨_, rfl⟩
            have hNh1 : N0 ≤ h1 := by omega
            have HX1 := Lib.hid (nil_made W4 N0 hzW)
            rw [hh1] at HX1
            have hne16 : h1 ≠ h6 := by have := (World.ownsRow.lt HXv.out h6 rfl).2; omega
            have HB := Lib.hid (HB.out.alloc (Nat.le_trans hz0 hzW) (.cells #[] 3))
            have HIb := Lib.hid (show IsInts (W4.alloc (.cells #[] 3)) b (.slice (some ⟨g, 0, none⟩) L cap) xs from World.ownsRow.alloc HIb.out _)
            have HFb := Lib.hid (show IsInts (W4.alloc (.cells #[] 3)) b F (putF xs (fstTo (bfN n s m a met) v)) from World.ownsRow.alloc HFb.out _)
            have HXv := Lib.hid (show IsInts (W4.alloc (.cells #[] 3)) N0 (.slice (some ⟨h6, 0, none⟩) 1 1) [(v : Int)] from World.ownsRow.alloc HXv.out _)
            have hsz9 : (W4.alloc (.cells #[] 3)).heap.size = W4.heap.size + 1 := by simp
            obtain ⟨W5, hW5⟩ : ∃ W5, W4.alloc (.cells #[] 3) = W5 := ⟨_, rfl⟩
            rw [hW5] at HB HIb HFb hsz9 HXv HX1 ⊢
            clear hW5
            rw [hh1] at hsz9 ⊢
            have hzW : N0 ≤ W5.heap.size := by omega
            clear hh1 hsz9
            refine hK.out _ _ trivial ?_
            clear hK K
            try simp only [Act.put, List.setIfInBounds_toArray, List.set_cons_zero, List.set_cons_succ]
            refine step1 4 (by kernel_rfl) rfl (fun K hK => ?_)
            rw [if_pos (by rfl)]
            refine wp_append_any (.tmp 68) (.tmp 69) rfl (.slice (some ⟨h1, 0, none⟩) 0 0) [] xs W5 N0 g cap b rfl (by rw [HL.out]; rfl) HX1.out (by rw [HL.out]; exact HIb.out) HLs.out hzW (fun v2 W6 hX2 hkeep hbelow hgrows => ?_)
            have HX2 := Lib.hid hX2
            rw [List.nil_append] at HX2
            have HIb := Lib.hid (hkeep _ _ _ HIb.out (apart_gh (Nat.ne_of_lt (Nat.lt_of_lt_of_le hgN hNh1))))
            have HFb := Lib.hid (hkeep _ _ _ HFb.out (far_block (fun k hk => hFl k hk) hNh1))
            have HXv := Lib.hid (hkeep _ _ _ HXv.out (apart_gh (fun e => hne16 e.symm)))
            have HB := Lib.hid (hbelow _ _ hz0 HB.out)
            have hzW := Nat.le_trans hzW hgrows
            clear hX2 hkeep hbelow hgrows HX1
            refine hK.out _ _ trivial ?_
            clear hK K
            try simp only [Act.put, List.setIfInBounds_toArray, List.set_cons_zero, List.set_cons_succ]
            refine step1 7 (by kernel_rfl) rfl (fun K hK => ?_)
            rw [if_pos (by rfl)]
            have hd2 : (Value.slice (some ⟨h6, 0, none⟩) 1 1).ownBlock = none ∨ True := .inr trivial
            refine wp_append_any (.tmp 70) (.tmp 72) rfl v2 xs [(v : Int)] W6 N0 h6 1 N0 rfl rfl HX2.out HXv.out (HLs2.out v) hzW (fun v3 W7 hX3 hkeep hbelow hgrows => ?_)
            have HX3 := Lib.hid hX3
            have HIb := Lib.hid (hkeep _ _ _ HIb.out (far_block2 (N := N0) (far_g hgN) (fun k hk => (World.ownsRow.lt HX2.out k hk).1)))
            have HFb := Lib.hid (hkeep _ _ _ HFb.out (far_block2 (N := N0) (fun k hk => hFl k hk) (fun k hk => (World.ownsRow.lt HX2.out k hk).1)))
            have HB := Lib.hid (hbelow _ _ hz0 HB.out)
            have hzW := Nat.le_trans hzW hgrows
            clear hX3 hkeep hbelow hgrows HX2 HXv
            refine hK.out _ _ trivial ?_
            clear hK K
            try simp only [Act.put, List.setIfInBounds_toArray, List.set_cons_zero, List.set_cons_succ]
            rcases HX3.out.shape with ⟨_, e⟩ | ⟨g3, cap3, hv3, hg31, hg32, hg33⟩
            · exact absurd e (by simp)
            rw [HL2.out] at hv3
            subst hv3
            refine step1 15 (by kernel_rfl) rfl (fun K hK => ?_)
            go_simp
            refine (HIHv.out N0 g3 cap3 _ HX3.out hzW).mono ?_
            rintro e W9 ⟨sv, rfl, hb9, hI9⟩
            have HSv := Lib.hid hI9
            have HIb := Lib.hid (HIb.out.belowAll hb9)
            have HFb := Lib.hid (HFb.out.belowAll hb9)
            have HB := Lib.hid (HB.out.trans (hb9.mono HB.out.size))
            clear hb9 hI9 hg33 HX3
            go_wp2_with fail
            refine hK.out _ _ trivial ?_
            clear hK K
            try simp only [Act.put, List.setIfInBounds_toArray, List.set_cons_zero, List.set_cons_succ]
            refine take1 16 (v := ?_) rfl (by kernel_rfl) (by kernel_rfl) (by kernel_rfl) (fun _ _ _ h => h) (by rfl) ?_ trivial ?_
            rotate_left
            · intro W9 hA
              clear hA
              go_simp
              try with_reducible rfl
            try simp only [Act.put, List.setIfInBounds_toArray, List.set_cons_zero, List.set_cons_succ]
            refine take1 17 (v := ?_) rfl (by kernel_rfl) (by kernel_rfl) (by kernel_rfl) (fun _ _ _ h => h) (by rfl) ?_ trivial ?_
            rotate_left
            · intro W9 hA
              clear hA
              go_simp
              try with_reducible rfl
            try simp only [Act.put, List.setIfInBounds_toArray, List.set_cons_zero, List.set_cons_succ]
            refine take1 18 (v := ?_) rfl (by kernel_rfl) (by kernel_rfl) (by kernel_rfl) (fun _ _ _ h => h) (by rfl) ?_ trivial ?_
            rotate_left
            · intro W9 hA
              clear hA
              go_simp
              try with_reducible rfl
            try simp only [Act.put, List.setIfInBounds_toArray, List.set_cons_zero, List.set_cons_succ]
            refine take1 19 (v := ?_) rfl (by kernel_rfl) (by kernel_rfl) (by kernel_rfl) (fun _ _ _ h => h) (by rfl) ?_ trivial ?_
            rotate_left
            · intro W9 hA
              clear hA
              go_simp
              try with_reducible rfl
            try simp only [Act.put, List.setIfInBounds_toArray, List.set_cons_zero, List.set_cons_succ]
            refine take1 20 (v := ?_) rfl (by kernel_rfl) (by kernel_rfl) (by kernel_rfl) (fun _ _ _ h => h) (by rfl) ?_ trivial ?_
            rotate_left
            · intro W9 hA
              clear hA
              go_simp
              try with_reducible rfl
            try simp only [Act.put, List.setIfInBounds_toArray, List.set_cons_zero, List.set_cons_succ]
            refine stop1 (by kernel_rfl) ?_
            by_cases hc0 : c = 0
            · by_cases hk0 : 0 < kk
              · have HFs := Lib.hid (HFst.out.1 ⟨hc0, hk0⟩)
                have b1 : ((c : Int) == 0) = true := by simp [hc0]
                have b2 : (0 : Int) < (kk : Int) := by omega
                have b3 := decide_eq_true b2
                clear hc0 hk0 HFst
                go_wp2
                go_roundw
                case rel => exact ⟨_, v + 1, c2, rfl, by omega, by omega, HC2.out, rfl, by go_num, by rw [HFs.out]; exact HSv.out.base hbN, HIb.out, HB.out⟩
                case measure => simp [intOf]; omega
              · have HFs := Lib.hid (HFst.out.2 (fun h => hk0 h.2))
                have b1 : ((c : Int) == 0) = true := by simp [hc0]
                have b2 : ¬ (0 : Int) < (kk : Int) := by omega
                have b3 := decide_eq_false b2
                clear hc0 hk0 HFst
                go_wp2
                go_roundw
                case rel => exact ⟨_, v + 1, c2, rfl, by omega, by omega, HC2.out, rfl, by go_num, by rw [HFs.out]; exact HFb.out, HIb.out, HB.out⟩
                case measure => simp [intOf]; omega
            · have HFs := Lib.hid (HFst.out.2 (fun h => hc0 h.1))
              have b1 : ((c : Int) == 0) = false := by simp; omega
              clear hc0 HFst
              go_wp2
              go_roundw
              case rel => exact ⟨_, v + 1, c2, rfl, by omega, by omega, HC2.out, rfl, by go_num, by rw [HFs.out]; exact HFb.out, HIb.out, HB.out⟩
              case measure => simp [intOf]; omega
      · rw [hmv] at hmb HMay
        have hbr := HBr.out HMay.out
        have HCs := Lib.hid (gone_no n s m a met most v hbr)
        have HFs := Lib.hid (fst_same n s m a met v hbr)
        clear hmv hbr HBr HMay
        go_wp2
        go_roundw
        case rel => exact ⟨_, v + 1, c, rfl, by omega, by omega, by rw [HCs.out]; exact HC.out, rfl, by go_num, by rw [HFs.out]; exact HFb.out, HIb.out, HB.out⟩
        case measure => simp [intOf]; omega
    · have hend : n ≤ v ∨ most ≤ goneN n s m a met most v := by rw [← HC.out]; omega
      have HE1 := Lib.hid (gone_end n s m a met most v hv hend)
      have HE2 := Lib.hid (fst_end n s m a met most v hv hm hend)
      clear hend
      by_cases hlt : v < n
      · have l1 : (v : Int) < (n : Int) := by omega
        have l2 := decide_eq_true l1
        have l3 : ¬ (c : Int) < (most : Int) := by omega
        have l4 := decide_eq_false l3
        clear hgo hlt
        go_wp2
        go_ret2
        exact ⟨_, by rw [← HE1.out, ← HC.out]; rfl, HB.out, by rw [← HE2.out]; exact HFb.out⟩
      · have l1 : ¬ (v : Int) < (n : Int) := by omega
        have l2 := decide_eq_false l1
        clear hgo hlt
        go_wp2
        go_ret2
        exact ⟨_, by rw [← HE1.out, ← HC.out]; rfl, HB.out, by rw [← HE2.out]; exact HFb.out⟩
end Go.Proofs.Ytfgolkbafnfblaa
