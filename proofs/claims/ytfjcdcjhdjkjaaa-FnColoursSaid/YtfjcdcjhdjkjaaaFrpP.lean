/- Fair colours, the program's side: colours are tried in place. Written by gen51.py. -/
import Derived.Test.YtfjcdcjhdjkjaaaGJ
import Derived.Test.YtfjcdcjhdjkjaaaGI
import Derived.Deep.LoopGhost
import Derived.WalkMore
namespace Go.Proofs.Ytfjcdcjhdjkjaaa
open Go.RowKit Go.Shelf
set_option linter.unusedVariables false
theorem Aside.alloc {T : Nat} {W W1 : World} (h : Aside T W W1) (o : Obj) : Aside T W (W1.alloc o) := h.call ((Below.refl _ _).alloc (Nat.le_refl _) o)
theorem Aside.drew {T : Nat} {W W1 : World} (h : Aside T W W1) : Aside T W W1.drew := ⟨h.os, h.tape, h.output, h.size, h.block⟩
theorem Aside.grown {T : Nat} {W W1 W2 : World} (h : Aside T W W1) (hg : W1.grownBy W2 (some T)) : Aside T W W2 :=
  ⟨hg.os.trans h.os, hg.tape.trans h.tape, hg.output.trans h.output, Nat.le_trans h.size hg.size, fun k hk hn => (hg.block k (Nat.lt_of_lt_of_le hk h.size) (fun e => hn (by injection e))).trans (h.block k hk hn)⟩
theorem Aside.trans {T : Nat} {A B C : World} (h : Aside T A B) (h' : Aside T B C) : Aside T A C :=
  ⟨h'.os.trans h.os, h'.tape.trans h.tape, h'.output.trans h.output, Nat.le_trans h.size h'.size, fun k hk hn => (h'.block k (Nat.lt_of_lt_of_le hk h.size) hn).trans (h.block k hk hn)⟩
theorem duo_aside {T : Nat} {W W' : World} {B : Nat} {t : TypeId} {u v : Value} (h : Duo W B t u v) (ha : Aside T W W') (hn : B ≠ T) : Duo W' B t u v := (ha.block B h.lt hn).trans h
/-- A list is there where a longer one is. -/
theorem ints_init {W : World} {b g cap L : Nat} {xs : List Int} {r : Int} (hL : xs.length = L) (h : IsInts W b (.slice (some ⟨g, 0, none⟩) (L + 1) cap) (xs ++ [r])) : IsInts W b (.slice (some ⟨g, 0, none⟩) L cap) xs := by
  subst hL
  obtain ⟨h1, h2⟩ := h
  refine ⟨by simp, ?_⟩
  rcases h2 with ⟨h3, h4⟩ | ⟨g', cap', cur, h3, h4, h5, h6, h7, h8, h9⟩
  · simp at h4
  · rw [List.length_append, List.length_singleton] at h3 h6
    cases h3
    refine .inr ⟨g, cap, cur, rfl, h4, h5, by omega, h7, h8, ?_⟩
    have e := congrArg (List.take xs.length) h9
    rw [List.take_take, List.length_append, List.length_singleton, List.map_append, List.take_append_of_le_length (by simp)] at e
    rw [show min xs.length ((xs.length + 1) * 1) = xs.length * 1 by omega] at e
    rw [e]
    exact List.take_of_length_le (by simp)
theorem wp_append_fit {o : Oper} {act : Act} {K : Act → World → Prop} {Q : Exit → Act → World → Prop} (s x : Operand) (ho : o.op = .call { callee := .builtin .append, args := #[s, x], argTypes := #[33, 33] })
    (g cap L : Nat) (xs : List Int) (r : Int) (W : World) (N : Nat) (hL : xs.length = L) (hs : act.eval s = .slice (some ⟨g, 0, none⟩) L cap) (hx : act.eval x = .slice (some ⟨W.heap.size, 0, none⟩) 1 1)
    (hO : IsInts W N (.slice (some ⟨g, 0, none⟩) L cap) xs) (hroom : L + 1 ≤ cap)
    (h : ∀ (w1 : World), IsInts w1 N (.slice (some ⟨g, 0, none⟩) (L + 1) cap) (xs ++ [r]) → (W.alloc (.cells #[.int .i64 r] 3)).grownBy w1 (some g) → K (act.put o.dst (.slice (some ⟨g, 0, none⟩) (L + 1) cap)) w1) : o.wp Try.prog act (W.alloc (.cells #[.int .i64 r] 3)) K Q := by
  subst hL
  obtain ⟨i0, hi, hz0, hz1, hz2⟩ := info_parts Try.infoQ
  have hO2 : (W.alloc (.cells #[.int .i64 r] 3)).ownsRow N 3 1 (.slice (some ⟨g, 0, none⟩) xs.length cap) xs.length (xs.map (Value.int .i64)) := World.ownsRow.alloc hO _
  have hc1 : ∀ j u, [Value.int .i64 r][j]? = some u → (W.alloc (.cells #[.int .i64 r] 3)).cell? ((⟨W.heap.size, 0, none⟩ : Addr).add j) = some u := by
    intro j u hj
    cases j with
    | zero => simp at hj; subst hj; simp [Addr.add]
    | succ j => simp at hj
  have hc2 : ∀ u ∈ [Value.int .i64 r], u.oneCell' = true := by intro u hu; simp at hu; subst hu; rfl
  obtain ⟨w1, hr, h2, h3⟩ := run_append_fits (P := Try.prog) (W.alloc (.cells #[.int .i64 r] 3)) N 33 o.type 3 i0 1 Try.underlying33 hi hz1 g xs.length cap _ hO2 ⟨W.heap.size, 0, none⟩ 1 1 [.int .i64 r] rfl hc1 hc2 hroom
  unfold Oper.wp execOp
  simp only [ho, resolve, invoke, builtin, Sem.run_bind, Sem.run_pure, Result.andThen_ok, List.map_toArray, List.map_cons, List.map_nil, hs, hx, hr]
  exact h w1 (snoc_ints h2) h3
theorem ok_down (q : Nat) (xs : List Int) (c : Nat) {j : Nat} (h : okTo q xs c j = false) : ∀ d, okTo q xs c (j + d) = false
  | 0 => h
  | d + 1 => by
    show (okTo q xs c (j + d) && _) = false
    rw [ok_down q xs c h d, Bool.false_and]
theorem paint_zero (n q k b g cap : Nat) (xs : List Int) (w : World) (hl : xs.length = n) (hI : IsInts w b (.slice (some ⟨g, 0, none⟩) xs.length cap) xs) :
    Calls Try.prog 84 #[.agg #[.int .i64 (n:Int), .int .i64 (q:Int)], .slice (some ⟨g, 0, none⟩) xs.length cap, .int .i64 (k:Int)] w fun e w' => e = .returned (.int .i64 1) ∧ Aside g w w' ∧ IsInts w' b (.slice (some ⟨g, 0, none⟩) xs.length cap) xs := by
  have HI := Lib.hid hI
  rw [hl] at HI ⊢
  have e1 : ((n : Int) == (n : Int)) = true := by simp
  clear hI
  go_enter Try.func84, Try.ntmps84
  go_wp2
  go_step3
  go_wp2
  try rw [Exit.noGoto_ret]
  go_ret
  exact ⟨rfl, (Aside.refl g w).alloc _, World.ownsRow.alloc HI.out _⟩
set_option maxRecDepth 100000 in
set_option maxHeartbeats 2000000 in
theorem paint_succ (m n q k b g cap : Nat) (xs : List Int) (w : World) (h1 : 1 ≤ n) (h2 : n ≤ 8) (hq : q < 2 ^ n) (hk : k ≤ 8) (hl : xs.length + (m + 1) = n) (hcap : n ≤ cap)
    (hI : IsInts w b (.slice (some ⟨g, 0, none⟩) xs.length cap) xs)
    (IH : ∀ (v : Nat) (W : World), v < k → IsInts W b (.slice (some ⟨g, 0, none⟩) (xs.length + 1) cap) (xs ++ [(v : Int)]) →
      Calls Try.prog 84 #[.agg #[.int .i64 (n:Int), .int .i64 (q:Int)], .slice (some ⟨g, 0, none⟩) (xs.length + 1) cap, .int .i64 (k:Int)] W fun e w' => e = .returned (.int .i64 ((waysN q k m (xs ++ [(v : Int)]) : Nat) : Int)) ∧ Aside g W w' ∧ IsInts w' b (.slice (some ⟨g, 0, none⟩) (xs.length + 1) cap) (xs ++ [(v : Int)])) :
    Calls Try.prog 84 #[.agg #[.int .i64 (n:Int), .int .i64 (q:Int)], .slice (some ⟨g, 0, none⟩) xs.length cap, .int .i64 (k:Int)] w fun e w' => e = .returned (.int .i64 ((waysN q k (m + 1) xs : Nat) : Int)) ∧ Aside g w w' ∧ IsInts w' b (.slice (some ⟨g, 0, none⟩) xs.length cap) xs := by
  have hmx : Try.prog.follows .mixedOrders = true := by kernel_rfl
  have hpw := pow_le n (by omega)
  have hgl := (World.ownsRow.lt hI g rfl).2
  have HI := Lib.hid hI
  have HIH := Lib.hid IH
  obtain ⟨L, hL⟩ : ∃ L, xs.length = L := ⟨_, rfl⟩
  rw [hL] at HI HIH hl ⊢
  have HL := Lib.hid hL
  have e1 : ((L : Int) == (n : Int)) = false := beq_cast_ne (by omega)
  have HSe : Hid (sumTo (fun c => if okTo q xs c L then waysN q k m (xs ++ [(c : Int)]) else 0) k = waysN q k (m + 1) xs) := Lib.hid (by subst hL; rfl)
  have hpm : k ^ m ≤ 16777216 := by
    have a := Nat.pow_le_pow_left hk m
    have b := Nat.pow_le_pow_right (n := 8) (by omega) (show m ≤ 8 by omega)
    have : 8 ^ 8 = 16777216 := by decide
    omega
  have HCw := Lib.hid (fun c : Nat => Nat.le_trans (cways_le q k m (xs ++ [(c : Int)])) hpm)
  have HCb : Hid (∀ c, c ≤ k → sumTo (fun c => if okTo q xs c L then waysN q k m (xs ++ [(c : Int)]) else 0) c ≤ 134217728) := Lib.hid (fun c hc => by
    have h := csumTo_le (fun c => if okTo q xs c L then waysN q k m (xs ++ [(c : Int)]) else 0) 16777216 c (fun v hv => by
      split
      · exact HCw.out v
      · exact Nat.zero_le _)
    have : c * 16777216 ≤ 8 * 16777216 := Nat.mul_le_mul_right _ (by omega)
    omega)
  have hD0 := Duo.new w 43 (.int .i64 (n:Int)) (.int .i64 (q:Int))
  have HA0 := Lib.hid ((Aside.refl g w).alloc (.cells #[.int .i64 (n:Int), .int .i64 (q:Int)] 43))
  have HI0 : Hid (IsInts (w.alloc (.cells #[.int .i64 (n:Int), .int .i64 (q:Int)] 43)) b (.slice (some ⟨g, 0, none⟩) L cap) xs) := Lib.hid (World.ownsRow.alloc HI.out _)
  have HD0 := Lib.hid hD0
  clear hI hL IH hpm hD0
  go_enter Try.func84, Try.ntmps84
  go_wp2
  go_step3
  go_wp2
  go_step3
  go_wp2
  go_loopg [8, 20] k (fun gh cs vs wr => ∃ c : Nat, c + gh = k ∧ cs = .int .i64 ((sumTo (fun c => if okTo q xs c L then waysN q k m (xs ++ [(c : Int)]) else 0) c : Nat) : Int) ∧ vs = .int .i64 (c : Int) ∧ Hid (Aside g w wr) ∧ Hid (IsInts wr b (.slice (some ⟨g, 0, none⟩) L cap) xs) ∧ Hid (Duo wr w.heap.size 43 (.int .i64 (n:Int)) (.int .i64 (q:Int))))
  case atStart => exact ⟨0, by omega, rfl, rfl, HA0, HI0, HD0⟩
  case round =>
    obtain ⟨c, hc', rfl, rfl, HA, HIr, HD⟩ := hrel
    have hc : c ≤ k := by omega
    have d0 := HD.out.cell0
    have d1 := HD.out.cell1
    have HSm : Hid (sumTo (fun c => if okTo q xs c L then waysN q k m (xs ++ [(c : Int)]) else 0) (c + 1) = sumTo (fun c => if okTo q xs c L then waysN q k m (xs ++ [(c : Int)]) else 0) c + (if okTo q xs c L then waysN q k m (xs ++ [(c : Int)]) else 0)) := Lib.hid rfl
    have hcb := HCb.out c hc
    cases gk with
    | succ go_ =>
      have hlt : c < k := by omega
      have hcw := HCw.out c
      generalize sumTo (fun c => if okTo q xs c L then waysN q k m (xs ++ [(c : Int)]) else 0) c = S at *
      have c1 : (c : Int) < (k : Int) := by omega
      go_wp2
      go_loopg [25] L (fun gh v wx => ∃ j : Nat, j + gh = L ∧ v = .int .i64 (j : Int) ∧ Hid (okTo q xs c j = true) ∧ wx = wr)
      case atStart => exact ⟨0, by omega, rfl, Lib.hid rfl, rfl⟩
      case round =>
        obtain ⟨j, hj', rfl, HO, rfl⟩ := hrel
        have hj : j ≤ L := by omega
        cases gk with
        | succ gi_ =>
          have hjl : j < L := by omega
          have HOk : Hid (okTo q xs c (j + 1) = (!q.testBit (L - j) || !decide (xs.getD j 0 = (c : Int)))) := Lib.hid (by
            have e : okTo q xs c (j + 1) = (okTo q xs c j && (!q.testBit (xs.length - j) || !decide (xs.getD j 0 = (c : Int)))) := rfl
            rw [e, HO.out, HL.out, Bool.true_and])
          have cj := HIr.out.cell (i := j) (by rw [HL.out]; exact hjl)
          obtain ⟨Dd, hD⟩ : ∃ Dd, L - j = Dd := ⟨_, rfl⟩
          rw [hD] at HOk
          have dI : (L : Int) - (j : Int) = (Dd : Int) := by omega
          have w1 : IntKind.i64.wrap ((L : Int) - (j : Int)) = (Dd : Int) := by rw [dI]; exact IntWalk.i64_in _ ⟨by omega, by omega⟩
          have w2 : wrap64 ((L : Int) - (j : Int)) = (Dd : Int) := by rw [dI]; exact IntWalk.wrap64_in _ ⟨by omega, by omega⟩
          have hht := fun W => has_any q Dd W (by omega) (by omega)
          have i1 : (0 : Int) ≤ (j : Int) := by omega
          have i2 : (j : Int) < (L : Int) := by omega
          generalize xs.getD j 0 = z at *
          clear hD dI
          by_cases hz : z = (c : Int)
          · rw [decide_eq_true hz] at HOk
            have g1 : (z == (c : Int)) = true := by simp [hz]
            cases hb : q.testBit Dd
            · rw [hb] at hht HOk
              have HOk2 : Hid (okTo q xs c (j + 1) = true) := HOk
              have HH := Lib.hid hht
              clear HOk hb hz hht
              go_wp2_with (go_at_call 74; refine (HH.out _).mono ?_; rintro e w3 ⟨rfl, rfl⟩)
              go_roundg gi_
              case rel => exact ⟨j + 1, by omega, by go_num, HOk2, rfl⟩
              case measure => omega
            · rw [hb] at hht HOk
              have HF : Hid (okTo q xs c L = false) := Lib.hid (by
                have e : okTo q xs c (j + 1) = false := HOk.out
                have := ok_down q xs c e (L - (j + 1))
                rwa [show j + 1 + (L - (j + 1)) = L by omega] at this)
              have HH := Lib.hid hht
              rw [HF.out] at HSm
              have HS2 : Hid (sumTo (fun c => if okTo q xs c L then waysN q k m (xs ++ [(c : Int)]) else 0) (c + 1) = S) := HSm
              clear HOk hb hz hht HF HSm
              go_wp2_with (go_at_call 74; refine (HH.out _).mono ?_; rintro e w3 ⟨rfl, rfl⟩)
              go_roundg go_
              case rel => exact ⟨c + 1, by omega, by rw [HS2.out], by go_num, HA, HIr, HD⟩
              case measure => omega
          · have g1 : (z == (c : Int)) = false := by simp [hz]
            rw [decide_eq_false hz] at HOk
            have HOk2 : Hid (okTo q xs c (j + 1) = true) := Lib.hid (by rw [HOk.out]; simp)
            clear HOk hz hht
            go_wp2
            go_roundg gi_
            case rel => exact ⟨j + 1, by omega, by go_num, HOk2, rfl⟩
            case measure => omega
        | zero =>
          obtain rfl : j = L := by omega
          rw [HO.out] at HSm
          have HIH1 := Lib.hid (fun W h => HIH.out c W hlt h)
          generalize waysN q k m (xs ++ [(c : Int)]) = y at *
          have HS2 : Hid (sumTo (fun c => if okTo q xs c j then waysN q k m (xs ++ [(c : Int)]) else 0) (c + 1) = S + y) := HSm
          clear HSm
          obtain ⟨Z, hZ⟩ : ∃ Z, S + y = Z := ⟨_, rfl⟩
          rw [hZ] at HS2
          have s2 : IntKind.i64.wrap ((S : Int) + (y : Int)) = (Z : Int) := by rw [show (S : Int) + (y : Int) = (Z : Int) by omega]; exact IntWalk.i64_in _ ⟨by omega, by omega⟩
          have s3 : wrap64 ((S : Int) + (y : Int)) = (Z : Int) := by rw [show (S : Int) + (y : Int) = (Z : Int) by omega]; exact IntWalk.wrap64_in _ ⟨by omega, by omega⟩
          have HNe : Hid (w.heap.size ≠ g) := Lib.hid (by omega)
          have HRm : Hid (j + 1 ≤ cap) := Lib.hid (by omega)
          clear hZ hcw hcb
          go_wp2
          have HDd : Hid (Duo wr.drew w.heap.size 43 (.int .i64 (n:Int)) (.int .i64 (q:Int))) := HD
          have HAd := Lib.hid HA.out.drew
          have HId : Hid (IsInts wr.drew b (.slice (some ⟨g, 0, none⟩) j cap) xs) := HIr
          refine wp_region_held_drew (S := fun W => Duo W w.heap.size 43 (.int .i64 (n:Int)) (.int .i64 (q:Int))) hmx HDd.out (fun _ => ?_)
          generalize wr.drew = W4 at *
          refine take1 0 (v := ?_) rfl (by kernel_rfl) (by kernel_rfl) (by kernel_rfl) (fun _ _ _ h => h) (by rfl) ?_ HDd.out ?_
          rotate_left
          · intro W9 hA
            have c0 := hA.cell0
            have c1 := hA.cell1
            clear hA
            go_simp
            try with_reducible rfl
          try simp only [Act.put, List.setIfInBounds_toArray, List.set_cons_zero, List.set_cons_succ]
          refine take1 1 (v := ?_) rfl (by kernel_rfl) (by kernel_rfl) (by kernel_rfl) (fun _ _ _ h => h) (by rfl) ?_ HDd.out ?_
          rotate_left
          · intro W9 hA
            have c0 := hA.cell0
            have c1 := hA.cell1
            clear hA
            go_simp
            try with_reducible rfl
          try simp only [Act.put, List.setIfInBounds_toArray, List.set_cons_zero, List.set_cons_succ]
          refine take1 2 (v := ?_) rfl (by kernel_rfl) (by kernel_rfl) (by kernel_rfl) (fun _ _ _ h => h) (by rfl) ?_ HDd.out ?_
          rotate_left
          · intro W9 hA
            have c0 := hA.cell0
            have c1 := hA.cell1
            clear hA
            go_simp
            try with_reducible rfl
          try simp only [Act.put, List.setIfInBounds_toArray, List.set_cons_zero, List.set_cons_succ]
          refine take1 3 (v := ?_) rfl (by kernel_rfl) (by kernel_rfl) (by kernel_rfl) (fun _ _ _ h => h) (by rfl) ?_ HDd.out ?_
          rotate_left
          · intro W9 hA
            have c0 := hA.cell0
            have c1 := hA.cell1
            clear hA
            go_simp
            try with_reducible rfl
          try simp only [Act.put, List.setIfInBounds_toArray, List.set_cons_zero, List.set_cons_succ]
          refine take1 6 (v := ?_) rfl (by kernel_rfl) (by kernel_rfl) (by kernel_rfl) (fun _ _ _ h => h) (by rfl) ?_ HDd.out ?_
          rotate_left
          · intro W9 hA
            have c0 := hA.cell0
            have c1 := hA.cell1
            clear hA
            go_simp
            try with_reducible rfl
          try simp only [Act.put, List.setIfInBounds_toArray, List.set_cons_zero, List.set_cons_succ]
          refine step1 4 (by kernel_rfl) rfl (fun K hK => ?_)
          go_simp
          have HD5 := Lib.hid (HDd.out.alloc (.cells #[.int .i64 (c : Int)] 3))
          refine hK.out _ _ HD5.out ?_
          clear hK K
          try simp only [Act.put, List.setIfInBounds_toArray, List.set_cons_zero, List.set_cons_succ]
          refine step1 5 (by kernel_rfl) rfl (fun K hK => ?_)
          rw [if_pos (by rfl)]
          refine wp_append_fit (.tmp 44) (.tmp 46) rfl g cap j xs (c : Int) W4 b HL.out rfl rfl HId.out HRm.out (fun W6 hI6 hg6 => ?_)
          have HI6 := Lib.hid hI6
          have HA6 := Lib.hid ((HAd.out.alloc (.cells #[.int .i64 (c : Int)] 3)).grown hg6)
          have HD6 : Hid (Duo W6 w.heap.size 43 (.int .i64 (n:Int)) (.int .i64 (q:Int))) := Lib.hid (HD5.out.kept hg6 (fun e => HNe.out (by injection e)))
          clear hI6 hg6
          refine hK.out _ _ HD6.out ?_
          clear hK K
          try simp only [Act.put, List.setIfInBounds_toArray, List.set_cons_zero, List.set_cons_succ]
          refine step1 7 (by kernel_rfl) rfl (fun K hK => ?_)
          go_simp
          refine (HIH1.out _ HI6.out).mono ?_
          rintro e W7 ⟨rfl, hA7, hI7⟩
          go_wp2_with fail
          have HD7 := Lib.hid (duo_aside HD6.out hA7 HNe.out)
          have HA7 := Lib.hid (HA6.out.trans hA7)
          have HI7 := Lib.hid (ints_init HL.out hI7)
          clear hA7 hI7
          refine hK.out _ _ HD7.out ?_
          clear hK K
          try simp only [Act.put, List.setIfInBounds_toArray, List.set_cons_zero, List.set_cons_succ]
          refine take1 8 (v := ?_) rfl (by kernel_rfl) (by kernel_rfl) (by kernel_rfl) (fun _ _ _ h => h) (by rfl) ?_ HD7.out ?_
          rotate_left
          · intro W9 hA
            have c0 := hA.cell0
            have c1 := hA.cell1
            clear hA
            go_simp
            try with_reducible rfl
          try simp only [Act.put, List.setIfInBounds_toArray, List.set_cons_zero, List.set_cons_succ]
          refine take1 9 (v := ?_) rfl (by kernel_rfl) (by kernel_rfl) (by kernel_rfl) (fun _ _ _ h => h) (by rfl) ?_ HD7.out ?_
          rotate_left
          · intro W9 hA
            have c0 := hA.cell0
            have c1 := hA.cell1
            clear hA
            go_simp
            try with_reducible rfl
          try simp only [Act.put, List.setIfInBounds_toArray, List.set_cons_zero, List.set_cons_succ]
          refine stop1 (by kernel_rfl) ?_
          go_wp2
          go_roundg go_
          case rel => exact ⟨c + 1, by omega, by rw [HS2.out], by go_num, HA7, HI7, HD7⟩
          case measure => omega
    | zero =>
      obtain rfl : c = k := by omega
      rw [HSe.out]
      go_wp2
      try rw [Exit.noGoto_ret]
      go_ret
      exact ⟨rfl, HA.out, HIr.out⟩
theorem paint_any (m n q k b g cap : Nat) (xs : List Int) (w : World) (h1 : 1 ≤ n) (h2 : n ≤ 8) (hq : q < 2 ^ n) (hk : k ≤ 8) (hl : xs.length + m = n) (hcap : n ≤ cap)
    (hI : IsInts w b (.slice (some ⟨g, 0, none⟩) xs.length cap) xs) :
    Calls Try.prog 84 #[.agg #[.int .i64 (n:Int), .int .i64 (q:Int)], .slice (some ⟨g, 0, none⟩) xs.length cap, .int .i64 (k:Int)] w fun e w' => e = .returned (.int .i64 ((waysN q k m xs : Nat) : Int)) ∧ Aside g w w' ∧ IsInts w' b (.slice (some ⟨g, 0, none⟩) xs.length cap) xs := by
  induction m generalizing xs w with
  | zero => exact paint_zero n q k b g cap xs w (by omega) hI
  | succ m ih =>
    refine paint_succ m n q k b g cap xs w h1 h2 hq hk hl hcap hI fun v W hv hX => ?_
    have e : xs.length + 1 = (xs ++ [(v : Int)]).length := by simp
    rw [e] at hX ⊢
    exact ih (xs ++ [(v : Int)]) W (by rw [← e]; omega) hX
end Go.Proofs.Ytfjcdcjhdjkjaaa
