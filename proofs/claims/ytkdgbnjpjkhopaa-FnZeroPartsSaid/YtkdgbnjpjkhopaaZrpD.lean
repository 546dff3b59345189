/- Rows, the program's side: the iterator over the choices with the sum 0. Written by gen110.py. -/
import Derived.Test.YtkdgbnjpjkhopaaZrpC
namespace Go.Proofs.Ytkdgbnjpjkhopaa
open Go.RowKit Go.Shelf
set_option linter.unusedVariables false
attribute [local go_sem] Oper.semAt_some
/-- v is a choice as a number. -/
def RdZ {N : Nat} (x : Fin N) (v : Value) (W : World) : Prop := v = .int .i64 ((x.val : Nat) : Int)
theorem rdZ_put {N : Nat} : ∀ (x : Fin N) v W l (o o' : Obj), RdZ x v W → W.heap[l]? = some o → o.isCells = false → RdZ x v (W.putObj l o') := fun _ _ _ _ _ _ h _ _ => h
theorem rdZ_below {N : Nat} : ∀ (x : Fin N) v A B, RdZ x v A → Below A.heap.size A B → RdZ x v B := fun _ _ _ _ h _ => h
theorem Outside.up {A B : Nat} {X Y : World} (h : Outside B B X Y) (hA : A ≤ B) : Outside A A X Y :=
  ⟨h.os, h.tape, h.output, h.size, fun k hk => h.low k (by omega), fun k o h1 h2 h3 => by
    by_cases hk : k < B
    · exact (h.low k hk).trans h2
    · exact h.high k o (by omega) h2 h3⟩
theorem boxed_outside {X Y : World} {B b : Nat} {t : TypeId} {v : Value} (hb : Boxed X b t v) (h : Outside B B X Y) : Boxed Y b t v := by
  by_cases hk : b < B
  · exact (h.low b hk).trans hb
  · exact h.high b _ (by omega) hb rfl
theorem allCh_at (xs : List Int) (x : Nat × List Int) (h : x ∈ allCh xs) : x.1 < 2 ^ xs.length ∧ x.2 = atC xs x.1 xs.length := by
  obtain ⟨c, hc, rfl⟩ := List.mem_map.1 h
  exact ⟨List.mem_range.1 hc, rfl⟩
theorem atC_mem (xs : List Int) (c k : Nat) (hk : k ≤ xs.length) (P : Int → Prop) (h : ∀ i, i < xs.length → P (xs.getD i 0)) : ∀ i, i < (atC xs c k).length → P ((atC xs c k).getD i 0) := by
  induction k with
  | zero => exact fun i hi => absurd hi (Nat.not_lt_zero _)
  | succ k ih =>
    have e : atC xs c (k + 1) = if c.testBit k then atC xs c k ++ [xs.getD k 0] else atC xs c k := rfl
    intro i hi
    cases hb : c.testBit k
    · rw [hb, if_neg (by simp)] at e
      rw [e] at hi ⊢
      exact ih (by omega) i hi
    · rw [hb, if_pos rfl] at e
      rw [e] at hi ⊢
      rw [getD_snoc]
      by_cases hl : i < (atC xs c k).length
      · rw [if_pos hl]; exact ih (by omega) i hl
      · have : i = (atC xs c k).length := by simp at hi; omega
        rw [if_neg hl, if_pos this]
        exact h k (by omega)
/-- The sum of a choice that was read. -/
theorem total_rd (n : Nat) (xs : List Int) (x : Nat × List Int) (g cap : Nat) (W : World) (h1 : 1 ≤ n) (h2 : n ≤ 12) (hl : xs.length ≤ 12) (hr : ∀ i, i < xs.length → 0 ≤ xs.getD i 0 ∧ xs.getD i 0 < (n:Int)) (hx : x ∈ allCh xs) (hS : Shows W g x.2.length x.2) :
    Calls Try.prog 44 #[.agg #[.int .i64 (n:Int), .slice (some ⟨g, 0, none⟩) x.2.length cap]] W fun e w' => e = .returned (.int .i64 ((zsum n (rowZ xs) xs.length x.1 : Nat) : Int)) ∧ Below W.heap.size W w' := by
  obtain ⟨hx1, hx2⟩ := allCh_at xs x hx
  have hlen : x.2.length ≤ xs.length := by rw [hx2]; exact atC_len xs x.1 xs.length
  have h := total_any n g x.2.length cap x.2 W h1 h2 hS (by omega) (by
    rw [hx2]
    exact atC_mem xs x.1 xs.length (Nat.le_refl _) (fun z => 0 ≤ z ∧ z < (n:Int)) hr)
  have e : sumTo (rowZ x.2) x.2.length % n = zsum n (rowZ xs) xs.length x.1 := by
    rw [hx2, atC_sum]; rfl
  rw [e] at h
  exact h
theorem zeros_any (n : Nat) (sv : Value) (w : World) (hsv : ∃ A L c, sv = .slice A L c) :
    Calls Try.prog 33 #[.agg #[.int .i64 (n:Int), sv]] w fun e w' => e = .returned (.func (.func 42) #[] #[.pointer (some ⟨w.heap.size, 0, none⟩)]) ∧ w' = w.alloc (.cells #[.int .i64 (n:Int), sv] 40) := by
  obtain ⟨A, L, c, rfl⟩ := hsv
  go_enter Try.func33, Try.ntmps33
  go_wp2
  go_ret
  exact ⟨rfl, rfl⟩
set_option maxRecDepth 100000 in
set_option maxHeartbeats 8000000 in
theorem zeros1_any (n l Br g L cap : Nat) (xs : List Int) (J Jx : List (Fin (2 ^ xs.length)) → World → Prop) (W : World) (h1 : 1 ≤ n) (h2 : n ≤ 12) (hL : L ≤ 12) (hlc : L ≤ cap) (hr : ∀ i, i < xs.length → 0 ≤ xs.getD i 0 ∧ xs.getD i 0 < (n:Int))
    (bR : Duo W Br 40 (.int .i64 (n:Int)) (.slice (some ⟨g, 0, none⟩) L cap)) (hS : Shows W g L xs)
    (hJ : ∀ pre X Y, J pre X → Outside W.heap.size W.heap.size X Y → J pre Y) (hJx : ∀ pre X Y, Jx pre X → Outside W.heap.size W.heap.size X Y → Jx pre Y)
    (hY : ∀ pre x v W1, J pre W1 → W.heap.size ≤ W1.heap.size → RdZ x v W1 → pre.length < 5000 → YieldAt Fence.wide 7 Try.prog l #[v] W1 fun e W' =>
      (e = .returned (.bool true) ∧ J (pre ++ [x]) W' ∧ Kept 45 W.heap.size (fun k => k = g) W1 W') ∨ (e = .returned (.bool false) ∧ Jx (pre ++ [x]) W' ∧ Kept 45 W.heap.size (fun k => k = g) W1 W'))
    (hJ0 : J [] W) :
    Calls Try.prog 42 #[.func (.yield l) #[] #[], .pointer (some ⟨Br, 0, none⟩)] W fun e W' => (∃ v, e = .returned v) ∧
      ((∃ ys, ys = comeP (zq n xs) (2 ^ xs.length) (2 ^ xs.length) ∧ J ys W') ∨ (∃ pre, pre <+: comeP (zq n xs) (2 ^ xs.length) (2 ^ xs.length) ∧ Jx pre W')) := by
  have hp := pow_le L hL
  have hxl := hS.size
  have cB := bR.cell0
  have dB := bR.cell1
  refine (callsIn_wide (n := 10)).1 ?_
  refine callsIn_of_wp_marks Try.func42 rfl trivial ?_ rfl
  simp only [Try.ntmps42, List.size_toArray, List.length_cons, List.length_nil, Nat.reduceAdd, Nat.reduceSub, Array.replicate_succ, Array.replicate_zero, List.push_toArray, List.append_toArray, List.nil_append, List.cons_append]
  have q0 := (bR.alloc (.cells #[.func (.yield l) #[] #[]] 68)).cell0
  have q1 := (bR.alloc (.cells #[.func (.yield l) #[] #[]] 68)).cell1
  gi_wp2_with (refine ⟨trivial, ?_⟩; gi_at_call 43; refine (callsIn_wide.2 (choices_any n (.slice (some ⟨g, 0, none⟩) L cap) _ ⟨_, _, _, rfl⟩)).mono ?_; rintro e w' ⟨rfl, rfl⟩)
  clear q0 q1 cB dB
  have bY0 := (Boxed.new W 68 (.func (.yield l) #[] #[])).alloc (.cells #[.int .i64 (n:Int), .slice (some ⟨g, 0, none⟩) L cap] 40)
  have bR0 := Duo.new (W.alloc (.cells #[.func (.yield l) #[] #[]] 68)) 40 (.int .i64 (n:Int)) (.slice (some ⟨g, 0, none⟩) L cap)
  rw [World.size_alloc] at bR0
  have hB0 : Below W.heap.size W ((W.alloc (.cells #[.func (.yield l) #[] #[]] 68)).alloc (.cells #[.int .i64 (n:Int), .slice (some ⟨g, 0, none⟩) L cap] 40)) := ((Below.refl _ W).alloc (Nat.le_refl _) _).alloc (by simp) _
  have hz0 : ((W.alloc (.cells #[.func (.yield l) #[] #[]] 68)).alloc (.cells #[.int .i64 (n:Int), .slice (some ⟨g, 0, none⟩) L cap] 40)).heap.size = W.heap.size + 2 := by simp
  obtain ⟨W0, hW0⟩ : ∃ W0, ((W.alloc (.cells #[.func (.yield l) #[] #[]] 68)).alloc (.cells #[.int .i64 (n:Int), .slice (some ⟨g, 0, none⟩) L cap] 40)) = W0 := ⟨_, rfl⟩
  rw [hW0] at bY0 bR0 hB0 hz0 ⊢
  clear hW0
  have hS0 := hS.belowAll hB0
  have hgl := hS.lt
  have HPn := Lib.hid (fun (pre : List (Nat × List Int)) (x : Nat × List Int) (h : x.1 < 2 ^ xs.length) => pass_snoc (zq n xs) (2 ^ xs.length) pre x h)
  have HPl := Lib.hid (fun (pre : List (Nat × List Int)) => pass_len (zq n xs) (2 ^ xs.length) pre)
  have HTo := Lib.hid (fun (x : Nat × List Int) g cap V hx hS => total_rd n xs x g cap V h1 h2 (by omega) hr hx hS)
  have HJ := Lib.hid hJ
  have HJx := Lib.hid hJx
  have HY := Lib.hid hY
  have HJ0 := Lib.hid (hJ _ _ _ hJ0 (outside_below (Nat.le_refl _) hB0))
  clear hJ hJx hY hJ0 hS bR hr
  refine rangeReadsA rfl (by omega) (gf := 46) (lb := #[.pointer (some ⟨W.heap.size + 1, 0, none⟩)]) rfl trivial (enters_of Try.func46 (by kernel_rfl) rfl)
    (choices_keeps n (W.heap.size + 1) g L cap 5000 xs W0 hL hlc bR0 hS0 (by omega)) (fun k hk => by rcases hk with rfl | rfl <;> omega) (Below.refl _ _) (rdC_put n xs)
    (fun pre W9 => J (passC (zq n xs) (2 ^ xs.length) pre) W9 ∧ Boxed W9 W.heap.size 68 (.func (.yield l) #[] #[]))
    (fun c pre W9 => c = .ret ∧ Jx (passC (zq n xs) (2 ^ xs.length) pre) W9)
    (fun pre A B h k => ⟨HJ.out _ _ _ h.1 (k.up (by omega)), boxed_outside h.2 k⟩)
    (fun c pre A B h k => ⟨h.1, HJx.out _ _ _ h.2 (k.up (by omega))⟩)
    (rdC_below n xs) ⟨HJ0.out, bY0⟩
    (fun v a' W9 => ∃ Bx u0 u1 u2, v = .agg #[u0, u1, u2] ∧ a' = { tmps := #[.func (.yield l) #[] #[], .pointer (some ⟨Br, 0, none⟩), .pointer (some ⟨W.heap.size, 0, none⟩), .pointer (some ⟨Bx, 0, none⟩), .agg #[.int .i64 (n:Int), .slice (some ⟨g, 0, none⟩) L cap], .func (.func 46) #[] #[.pointer (some ⟨W.heap.size + 1, 0, none⟩)], v, undef, undef, undef, undef, undef, undef, undef, undef, undef, undef, undef, undef, undef, undef, undef, undef], defers := [] } ∧ Trip W9 Bx 74 u0 u1 u2)
    (fun v a' W9 l' o o' h hl ho => by
      obtain ⟨Bx, u0, u1, u2, e1, e2, hT⟩ := h
      refine ⟨Bx, u0, u1, u2, e1, e2, (World.putObj_heap_other (fun e => ?_)).trans hT⟩
      subst e
      have hT' : W9.heap[Bx]? = _ := hT
      rw [hl] at hT'
      cases hT'
      cases ho) ?assign ?body ?done ?stop
  case assign =>
    rintro l' x v W9 K hz ⟨hx, g', cap', rfl, hS9⟩ hK
    gi_wp2
    refine hK _ _ ?_ ⟨W9.heap.size, _, _, _, rfl, rfl, ?_⟩
    · exact (Below.refl _ _).alloc (Nat.le_refl _) _
    · exact Trip.new W9 74 _ _ _
  case body =>
    rintro l' pre ⟨c, ys⟩ v a' W9 hz ⟨hj, hby⟩ ⟨hx, g', cap', rfl, hS9⟩ ⟨Bx, u0, u1, u2, hv, rfl, hT⟩ hlen
    obtain ⟨hx1, hx2⟩ := allCh_at xs (c, ys) hx
    dsimp only at hx1 hx2 hv hS9
    cases hv
    have t0 := hT.cell0
    have t1 := hT.cell1
    have t2 := hT.cell2
    have cy := hby.cell
    have HPx := Lib.hid (HPn.out pre (c, ys) hx1)
    have HTx := Lib.hid (HTo.out (c, ys) g' cap' W9 hx hS9)
    have HZq := Lib.hid (zq_iff n xs c)
    have HPlx := Lib.hid (HPl.out pre)
    clear hx hx2
    have hWW : W.heap.size ≤ W9.heap.size := by omega
    have hW0W : W0.heap.size ≤ W9.heap.size := by omega
    by_cases hc0 : c = 0
    · have HPy : Hid (passC (zq n xs) (2 ^ xs.length) (pre ++ [(c, ys)]) = passC (zq n xs) (2 ^ xs.length) pre) := Lib.hid (by
        have e : zq n xs c = false := Bool.eq_false_iff.2 fun h => (HZq.out.1 h).1 hc0
        exact HPx.out.trans (if_neg (by show ¬ zq n xs c = true; rw [e]; simp)))
      have hI : J (passC (zq n xs) (2 ^ xs.length) (pre ++ [(c, ys)])) W9 ∧ Boxed W9 W.heap.size 68 (.func (.yield l) #[] #[]) := ⟨by rw [HPy.out]; exact hj, hby⟩
      have HI := Lib.hid hI
      clear HPx HTx HZq HY hj hby hx1 hI HPy
      subst hc0
      have hcz : (((0 : Nat) : Int) == 0) = true := rfl
      gi_wp2
      refine ⟨trivial, ?_⟩
      gi_wp2
      all_goals (try (refine ⟨fun _ h => (by cases h), ?_⟩; gi_wp2))
      exact ⟨Kept.refl _ _ _ _, HI.out⟩
    · have e1 : ((c : Int) == 0) = false := by rw [beq_eq_false_iff_ne]; omega
      have e2 : ((c : Int) != 0) = true := by simp [bne, e1]
      have e3 : ¬ (c : Int) = 0 := by omega
      by_cases hzz : zsum n (rowZ xs) xs.length c = 0
      · have HPy : Hid (passC (zq n xs) (2 ^ xs.length) (pre ++ [(c, ys)]) = passC (zq n xs) (2 ^ xs.length) pre ++ [⟨c, hx1⟩]) := Lib.hid (by
          have e : zq n xs c = true := HZq.out.2 ⟨hc0, hzz⟩
          exact HPx.out.trans (if_pos e))
        have HT2 := HTx.out
        rw [show ((c, ys) : Nat × List Int).1 = c from rfl, hzz] at HT2
        have HTz := Lib.hid HT2
        clear HT2 HTx HPx HZq hzz e3
        gi_wp2
        refine ⟨trivial, ?_⟩
        refine (callsIn_wide.2 HTz.out).mono ?_
        rintro e W2 ⟨rfl, hb2⟩
        have hT2 := hT.belowAll hb2
        have hby2 := boxed_below hby hby.lt hb2
        have hj2 := HJ.out _ _ _ hj (outside_below hWW hb2)
        have s0 := hT2.cell0
        have s1 := hT2.cell1
        have s2 := hT2.cell2
        have sy := hby2.cell
        have hz2 := hb2.size
        obtain ⟨fn, tmps, assign, body, hy, hRn⟩ := HY.out _ ⟨c, hx1⟩ (.int .i64 ((c : Nat) : Int)) W2 hj2 (by omega) rfl (by have := HPlx.out; omega)
        gi_wp2
        refine RoundIn.mono hRn ?_
        have HS2 : Hid (Kept 45 W0.heap.size (fun k => k = g ∨ k = W.heap.size + 1) W9 W2) := Lib.hid (Kept.below hb2)
        have hbl : W.heap.size < W2.heap.size := by omega
        rintro e W3 (⟨rfl, hj3, hs3⟩ | ⟨rfl, hj3, hs3⟩)
        · have HN : Hid (Kept 45 W0.heap.size (fun k => k = g ∨ k = W.heap.size + 1) W9 W3 ∧ J (passC (zq n xs) (2 ^ xs.length) (pre ++ [(c, ys)])) W3 ∧ Boxed W3 W.heap.size 68 (.func (.yield l) #[] #[])) :=
            Lib.hid ⟨HS2.out.trans (hs3.to (by omega) (fun k hk => hk.elim .inr (fun e => .inl (by omega)))), by rw [HPy.out]; exact hj3, hs3.box hby2 (.inl (Nat.le_refl _)) (by decide)⟩
          clear hj3 hs3
          gi_wp2
          exact HN.out
        · have HN : Hid (Kept 45 W0.heap.size (fun k => k = g ∨ k = W.heap.size + 1) W9 W3 ∧ Jx (passC (zq n xs) (2 ^ xs.length) (pre ++ [(c, ys)])) W3) :=
            Lib.hid ⟨HS2.out.trans (hs3.to (by omega) (fun k hk => hk.elim .inr (fun e => .inl (by omega)))), by rw [HPy.out]; exact hj3⟩
          clear hj3 hs3
          gi_wp2
          exact ⟨HN.out.1, rfl, HN.out.2⟩
      · have HPy : Hid (passC (zq n xs) (2 ^ xs.length) (pre ++ [(c, ys)]) = passC (zq n xs) (2 ^ xs.length) pre) := Lib.hid (by
          have e : zq n xs c = false := Bool.eq_false_iff.2 fun h => hzz (HZq.out.1 h).2
          exact HPx.out.trans (if_neg (by show ¬ zq n xs c = true; rw [e]; simp)))
        have HT2 := HTx.out
        rw [show ((c, ys) : Nat × List Int).1 = c from rfl] at HT2
        have e4 : (((zsum n (rowZ xs) xs.length c : Nat) : Int) == 0) = false := by rw [beq_eq_false_iff_ne]; omega
        have e5 : ¬ ((zsum n (rowZ xs) xs.length c : Nat) : Int) = 0 := by omega
        have HTz := Lib.hid HT2
        clear HT2 HTx HPx HZq hzz e3
        generalize zsum n (rowZ xs) xs.length c = z at *
        gi_wp2
        refine ⟨trivial, ?_⟩
        refine (callsIn_wide.2 HTz.out).mono ?_
        rintro e W2 ⟨rfl, hb2⟩
        have HN : Hid (Kept 45 W0.heap.size (fun k => k = g ∨ k = W.heap.size + 1) W9 W2 ∧ J (passC (zq n xs) (2 ^ xs.length) (pre ++ [(c, ys)])) W2 ∧ Boxed W2 W.heap.size 68 (.func (.yield l) #[] #[])) :=
          Lib.hid ⟨Kept.below hb2, by rw [HPy.out]; exact HJ.out _ _ _ hj (outside_below hWW hb2), boxed_below hby hby.lt hb2⟩
        clear hb2
        gi_wp2
        all_goals (try (refine ⟨fun _ h => (by cases h), ?_⟩; gi_wp2))
        exact HN.out
  case done =>
    rintro D ys W9 hD rfl ⟨hj, hby⟩ hK
    have HN : Hid (J (comeP (zq n xs) (2 ^ xs.length) (2 ^ xs.length)) (W9.putObj D (.deferred none))) := Lib.hid (by
      rw [← pass_all]
      exact HJ.out _ _ _ hj (Outside.putObj W9 _ (by omega) hK rfl))
    clear hj hby
    gi_wp2
    refine ⟨by simp, .inl ⟨_, _, rfl, run_takeDeferred hK, ?_⟩⟩
    exact ⟨_, results_none rfl _ _ _, ⟨_, rfl⟩, .inl ⟨_, rfl, HN.out⟩⟩
  case stop =>
    rintro D c pre W9 hD hpre ⟨rfl, hj⟩ hK
    have HN : Hid (Jx (passC (zq n xs) (2 ^ xs.length) pre) (W9.putObj D (.deferred none))) := Lib.hid (HJx.out _ _ _ hj (Outside.putObj W9 _ (by omega) hK rfl))
    have HQ : Hid (passC (zq n xs) (2 ^ xs.length) pre <+: comeP (zq n xs) (2 ^ xs.length) (2 ^ xs.length)) := Lib.hid (by
      rw [← pass_all]
      exact pass_prefix _ _ hpre)
    clear hj hpre
    gi_wp2
    refine ⟨by simp, .inl ⟨_, _, rfl, run_takeDeferred hK, ?_⟩⟩
    exact ⟨_, results_none rfl _ _ _, ⟨_, rfl⟩, .inr ⟨_, HQ.out, HN.out⟩⟩
theorem zeros_keeps (n Br g L cap : Nat) (xs : List Int) (w : World) (h1 : 1 ≤ n) (h2 : n ≤ 12) (hL : L ≤ 12) (hlc : L ≤ cap) (hr : ∀ i, i < xs.length → 0 ≤ xs.getD i 0 ∧ xs.getD i 0 < (n:Int))
    (bR : Duo w Br 40 (.int .i64 (n:Int)) (.slice (some ⟨g, 0, none⟩) L cap)) (hS : Shows w g L xs) :
    SeqKeeps Fence.wide 8 Try.prog 42 #[.pointer (some ⟨Br, 0, none⟩)] 45 (fun k => k = g) (RdZ (N := 2 ^ xs.length)) (fun ys => ys = comeP (zq n xs) (2 ^ xs.length) (2 ^ xs.length)) (fun pre => pre <+: comeP (zq n xs) (2 ^ xs.length) (2 ^ xs.length)) 5000 w := by
  intro l J Jx W hW hJ hJx hY h0
  exact callsIn_wide.2 (zeros1_any n l Br g L cap xs J Jx W h1 h2 hL hlc hr (bR.belowAll hW) (hS.belowAll hW) hJ hJx hY h0)
end Go.Proofs.Ytkdgbnjpjkhopaa
