/- Rows, the program's side: the iterators over all choices and over those with the sum 0. Written by gen110.py. -/
import Derived.Test.YtkdgbnjpjkhopaaZrpB
namespace Go.Proofs.Ytkdgbnjpjkhopaa
open Go.RowKit Go.Shelf
set_option linter.unusedVariables false
attribute [local go_sem] Oper.semAt_some
theorem choose_all (n l B : Nat) (C : Nat → Prop) (By Bc N o : Nat) (xs : List Int) (J Jx : List (Nat × List Int) → World → Prop)
    (hJ : ∀ pre X Y, J pre X → Outside B B X Y → J pre Y) (hBy : B ≤ By) (hBc : B ≤ Bc) (hx12 : xs.length ≤ 12)
    (hY : ∀ pre x v W1, J pre W1 → B ≤ W1.heap.size → RdC n xs x v W1 → pre.length < N → YieldAt Fence.wide 8 Try.prog l #[v] W1 fun e W' =>
      (e = .returned (.bool true) ∧ J (pre ++ [x]) W' ∧ Kept 45 B C W1 W') ∨ (e = .returned (.bool false) ∧ Jx (pre ++ [x]) W' ∧ Kept 45 B C W1 W')) :
    ChOk n l B C By Bc N xs o J Jx := by
  induction o with
  | zero => exact choose_zero n l B C By Bc N xs J Jx hJ hY
  | succ o ih => exact choose_succ n l B C By Bc N o xs J Jx hJ hBy hBc hx12 ih
theorem choices_any (n : Nat) (sv : Value) (w : World) (hsv : ∃ A L c, sv = .slice A L c) :
    Calls Try.prog 43 #[.agg #[.int .i64 (n:Int), sv]] w fun e w' => e = .returned (.func (.func 46) #[] #[.pointer (some ⟨w.heap.size, 0, none⟩)]) ∧ w' = w.alloc (.cells #[.int .i64 (n:Int), sv] 40) := by
  obtain ⟨A, L, c, rfl⟩ := hsv
  go_enter Try.func43, Try.ntmps43
  go_wp2
  go_ret
  exact ⟨rfl, rfl⟩
set_option maxRecDepth 100000 in
set_option maxHeartbeats 4000000 in
theorem choices1_any (n l Br g L cap N : Nat) (xs : List Int) (J Jx : List (Nat × List Int) → World → Prop) (W : World) (hL : L ≤ 12) (hlc : L ≤ cap)
    (bR : Duo W Br 40 (.int .i64 (n:Int)) (.slice (some ⟨g, 0, none⟩) L cap)) (hS : Shows W g L xs)
    (hJ : ∀ pre X Y, J pre X → Outside W.heap.size W.heap.size X Y → J pre Y)
    (hY : ∀ pre x v W1, J pre W1 → W.heap.size ≤ W1.heap.size → RdC n xs x v W1 → pre.length < N → YieldAt Fence.wide 8 Try.prog l #[v] W1 fun e W' =>
      (e = .returned (.bool true) ∧ J (pre ++ [x]) W' ∧ Kept 45 W.heap.size (fun k => k = g ∨ k = Br) W1 W') ∨ (e = .returned (.bool false) ∧ Jx (pre ++ [x]) W' ∧ Kept 45 W.heap.size (fun k => k = g ∨ k = Br) W1 W'))
    (hJ0 : J [] W) (hN : 2 ^ L ≤ N) :
    Calls Try.prog 46 #[.func (.yield l) #[] #[], .pointer (some ⟨Br, 0, none⟩)] W fun e W' => (∃ v, e = .returned v) ∧
      ((∃ ys, ys = allCh xs ∧ J ys W') ∨ (∃ pre, pre <+: allCh xs ∧ Jx pre W')) := by
  have hmx : Try.prog.follows .mixedOrders = true := by kernel_rfl
  have hp := pow_le L hL
  have hxl := hS.size
  have HP := Lib.hid (fun V => allPositions_any n g L cap V hL)
  have HX : Hid (∀ V, Outside W.heap.size W.heap.size W V → W.heap.size ≤ V.heap.size → Shows V g L xs → Boxed V W.heap.size 76 (.func (.yield l) #[] #[]) → Boxed V (W.heap.size + 1) 77 (.func (.func 47) #[] #[.pointer (some ⟨W.heap.size, 0, none⟩), .pointer (some ⟨W.heap.size + 1, 0, none⟩)]) →
      Calls Try.prog 47 #[.agg #[.int .i64 (n:Int), .slice (some ⟨g, 0, none⟩) L cap, .int .i64 ((2 ^ L - 1 : Nat) : Int)], .int .i64 ((L : Nat) : Int), .pointer (some ⟨W.heap.size, 0, none⟩), .pointer (some ⟨W.heap.size + 1, 0, none⟩)] V (ChPost W.heap.size (fun k => k = g ∨ k = Br) J Jx [] (allCh xs) V)) := Lib.hid (fun V ho hz hV hy hc => by
    have h := choose_all n l W.heap.size (fun k => k = g ∨ k = Br) W.heap.size (W.heap.size + 1) N L xs J Jx hJ (Nat.le_refl _) (by omega) (by omega) hY 0 g cap L [] [] V (by omega) rfl hlc hL (by omega) (by rw [← hxl, List.take_of_length_le (Nat.le_refl _), List.append_nil, hxl]; exact hV) (.inr (.inl rfl)) hz hy hc (hJ _ _ _ hJ0 ho) (by simpa using hN) (by
      intro y hy
      rw [Nat.mul_zero, ← hxl, chO_all] at hy
      exact hy)
    rw [Nat.mul_zero, Nat.zero_add] at h
    have e : chO xs L 0 [] = allCh xs := by rw [← hxl, chO_all]
    rw [e] at h
    exact h)
  have hN0 := Boxed.new (W.alloc (.cells #[.func (.yield l) #[] #[]] 76)) 77 .nilFunc
  rw [World.size_alloc] at hN0
  have n0 := hN0.cell
  have n1 := hN0.frozen
  have HS := Lib.hid hS
  have HR := Lib.hid bR
  have hst : (store (⟨W.heap.size + 1, 0, none⟩ : Addr) (.func (.func 47) #[] #[.pointer (some ⟨W.heap.size, 0, none⟩), .pointer (some ⟨W.heap.size + 1, 0, none⟩)])).run Try.prog ((W.alloc (.cells #[.func (.yield l) #[] #[]] 76)).alloc (.cells #[.nilFunc] 77)) = .ok () ((W.alloc (.cells #[.func (.yield l) #[] #[]] 76)).alloc (.cells #[(.func (.func 47) #[] #[.pointer (some ⟨W.heap.size, 0, none⟩), .pointer (some ⟨W.heap.size + 1, 0, none⟩)])] 77)) := by
    rw [run_store Try.prog _ _ _ _ (by rfl), n0]
    simp only [n1, Bool.false_eq_true, if_false]
    rw [World.setCell_alloc_at _ _ _ _ _ (by simp)]
    rfl
  clear hJ hY hJ0 hN hS bR hN0 n0 n1
  go_enter Try.func46, Try.ntmps46
  go_wp2
  clear hst
  have hY0 : Boxed ((W.alloc (.cells #[.func (.yield l) #[] #[]] 76)).alloc (.cells #[(.func (.func 47) #[] #[.pointer (some ⟨W.heap.size, 0, none⟩), .pointer (some ⟨W.heap.size + 1, 0, none⟩)])] 77)) W.heap.size 76 (.func (.yield l) #[] #[]) := (Boxed.new W 76 (.func (.yield l) #[] #[])).alloc _
  have hC0 : Boxed ((W.alloc (.cells #[.func (.yield l) #[] #[]] 76)).alloc (.cells #[(.func (.func 47) #[] #[.pointer (some ⟨W.heap.size, 0, none⟩), .pointer (some ⟨W.heap.size + 1, 0, none⟩)])] 77)) (W.heap.size + 1) 77 (.func (.func 47) #[] #[.pointer (some ⟨W.heap.size, 0, none⟩), .pointer (some ⟨W.heap.size + 1, 0, none⟩)]) := by
    have h := Boxed.new (W.alloc (.cells #[.func (.yield l) #[] #[]] 76)) 77 (.func (.func 47) #[] #[.pointer (some ⟨W.heap.size, 0, none⟩), .pointer (some ⟨W.heap.size + 1, 0, none⟩)])
    rw [World.size_alloc] at h
    exact h
  have hB0 : Below W.heap.size W ((W.alloc (.cells #[.func (.yield l) #[] #[]] 76)).alloc (.cells #[(.func (.func 47) #[] #[.pointer (some ⟨W.heap.size, 0, none⟩), .pointer (some ⟨W.heap.size + 1, 0, none⟩)])] 77)) := ((Below.refl _ W).alloc (Nat.le_refl _) _).alloc (by simp) _
  have hR0 := HR.out.belowAll hB0
  obtain ⟨W1, hW1⟩ : ∃ W1, ((W.alloc (.cells #[.func (.yield l) #[] #[]] 76)).alloc (.cells #[(.func (.func 47) #[] #[.pointer (some ⟨W.heap.size, 0, none⟩), .pointer (some ⟨W.heap.size + 1, 0, none⟩)])] 77)) = W1 := ⟨_, rfl⟩
  try simp only [hW1]
  rw [hW1] at hY0 hC0 hB0 hR0
  clear hW1
  have hA0 : Boxed W1.drew (W.heap.size + 1) 77 (.func (.func 47) #[] #[.pointer (some ⟨W.heap.size, 0, none⟩), .pointer (some ⟨W.heap.size + 1, 0, none⟩)]) ∧ Duo W1.drew Br 40 (.int .i64 (n:Int)) (.slice (some ⟨g, 0, none⟩) L cap) := ⟨hC0, hR0⟩
  have hY1 : Boxed W1.drew W.heap.size 76 (.func (.yield l) #[] #[]) := hY0
  have hB1 : Below W.heap.size W W1.drew := hB0.drew
  clear hY0 hC0 hB0 hR0
  refine wp_region_held_drew (S := fun W9 => Boxed W9 (W.heap.size + 1) 77 (.func (.func 47) #[] #[.pointer (some ⟨W.heap.size, 0, none⟩), .pointer (some ⟨W.heap.size + 1, 0, none⟩)]) ∧ Duo W9 Br 40 (.int .i64 (n:Int)) (.slice (some ⟨g, 0, none⟩) L cap)) hmx hA0 (fun _ => ?_)
  generalize W1.drew = W4 at *
  refine take1 0 (v := ?_) rfl (by kernel_rfl) (by kernel_rfl) (by kernel_rfl) (fun _ _ _ h => h) (by rfl) ?_ hA0 ?_
  rotate_left
  · intro W9 hA
    obtain ⟨hq, hp⟩ := hA
    have c0 := hp.cell0
    have c1 := hp.cell1
    have c3 := hq.cell
    clear hq hp
    go_simp
    try with_reducible rfl
  try simp only [Act.put, List.setIfInBounds_toArray, List.set_cons_zero, List.set_cons_succ]
  refine take1 1 (v := ?_) rfl (by kernel_rfl) (by kernel_rfl) (by kernel_rfl) (fun _ _ _ h => h) (by rfl) ?_ hA0 ?_
  rotate_left
  · intro W9 hA
    obtain ⟨hq, hp⟩ := hA
    have c0 := hp.cell0
    have c1 := hp.cell1
    have c3 := hq.cell
    clear hq hp
    go_simp
    try with_reducible rfl
  try simp only [Act.put, List.setIfInBounds_toArray, List.set_cons_zero, List.set_cons_succ]
  refine take1 3 (v := ?_) rfl (by kernel_rfl) (by kernel_rfl) (by kernel_rfl) (fun _ _ _ h => h) (by rfl) ?_ hA0 ?_
  rotate_left
  · intro W9 hA
    obtain ⟨hq, hp⟩ := hA
    have c0 := hp.cell0
    have c1 := hp.cell1
    have c3 := hq.cell
    clear hq hp
    go_simp
    try with_reducible rfl
  try simp only [Act.put, List.setIfInBounds_toArray, List.set_cons_zero, List.set_cons_succ]
  refine take1 4 (v := ?_) rfl (by kernel_rfl) (by kernel_rfl) (by kernel_rfl) (fun _ _ _ h => h) (by rfl) ?_ hA0 ?_
  rotate_left
  · intro W9 hA
    obtain ⟨hq, hp⟩ := hA
    have c0 := hp.cell0
    have c1 := hp.cell1
    have c3 := hq.cell
    clear hq hp
    go_simp
    try with_reducible rfl
  try simp only [Act.put, List.setIfInBounds_toArray, List.set_cons_zero, List.set_cons_succ]
  refine take1 5 (v := ?_) rfl (by kernel_rfl) (by kernel_rfl) (by kernel_rfl) (fun _ _ _ h => h) (by rfl) ?_ hA0 ?_
  rotate_left
  · intro W9 hA
    obtain ⟨hq, hp⟩ := hA
    have c0 := hp.cell0
    have c1 := hp.cell1
    have c3 := hq.cell
    clear hq hp
    go_simp
    try with_reducible rfl
  try simp only [Act.put, List.setIfInBounds_toArray, List.set_cons_zero, List.set_cons_succ]
  refine step1 2 (by kernel_rfl) rfl (fun K hK => ?_)
  go_simp
  refine (HP.out W4).mono ?_
  rintro e W5 ⟨rfl, hb5⟩
  have hA5 : Boxed W5 (W.heap.size + 1) 77 (.func (.func 47) #[] #[.pointer (some ⟨W.heap.size, 0, none⟩), .pointer (some ⟨W.heap.size + 1, 0, none⟩)]) ∧ Duo W5 Br 40 (.int .i64 (n:Int)) (.slice (some ⟨g, 0, none⟩) L cap) := ⟨boxed_below hA0.1 hA0.1.lt hb5, hA0.2.belowAll hb5⟩
  have hY5 := boxed_below hY1 hY1.lt hb5
  have hB5 := hB1.trans (hb5.mono hB1.size)
  have HX5 := Lib.hid (HX.out W5 (outside_below (Nat.le_refl _) hB5) hB5.size (HS.out.belowAll hB5) hY5 hA5.1)
  go_wp2_with fail
  refine hK.out _ _ hA5 ?_
  clear hK K hA0 hY1 hB1 hb5
  try simp only [Act.put, List.setIfInBounds_toArray, List.set_cons_zero, List.set_cons_succ]
  refine step1 6 (by kernel_rfl) rfl (fun K hK => ?_)
  go_simp
  refine HX5.out.mono ?_
  rintro e W6 ⟨hS6, (⟨rfl, hJ6⟩ | ⟨rfl, q, hq, hJ6⟩)⟩
  all_goals
    have hA6 : Boxed W6 (W.heap.size + 1) 77 (.func (.func 47) #[] #[.pointer (some ⟨W.heap.size, 0, none⟩), .pointer (some ⟨W.heap.size + 1, 0, none⟩)]) ∧ Duo W6 Br 40 (.int .i64 (n:Int)) (.slice (some ⟨g, 0, none⟩) L cap) := ⟨hS6.box hA5.1 (.inl (by omega)) (by decide), hS6.duo hA5.2 (.inr (.inr rfl)) (by decide)⟩
    go_wp2_with fail
    refine hK.out _ _ hA6 ?_
    clear hK K
    try simp only [Act.put, List.setIfInBounds_toArray, List.set_cons_zero, List.set_cons_succ]
    refine stop1 (by kernel_rfl) ?_
    go_wp2
    go_end0
  · exact ⟨⟨_, rfl⟩, .inl ⟨_, rfl, hJ6⟩⟩
  · exact ⟨⟨_, rfl⟩, .inr ⟨q, hq, hJ6⟩⟩
theorem choices_keeps (n Br g L cap N : Nat) (xs : List Int) (w : World) (hL : L ≤ 12) (hlc : L ≤ cap)
    (bR : Duo w Br 40 (.int .i64 (n:Int)) (.slice (some ⟨g, 0, none⟩) L cap)) (hS : Shows w g L xs) (hN : 2 ^ L ≤ N) :
    SeqKeeps Fence.wide 9 Try.prog 46 #[.pointer (some ⟨Br, 0, none⟩)] 45 (fun k => k = g ∨ k = Br) (RdC n xs) (fun ys => ys = allCh xs) (fun pre => pre <+: allCh xs) N w := by
  intro l J Jx W hW hJ hJx hY h0
  exact callsIn_wide.2 (choices1_any n l Br g L cap N xs J Jx W hL hlc (bR.belowAll hW) (hS.belowAll hW) hJ hY h0 hN)
theorem rdC_put (n : Nat) (xs : List Int) : ∀ x v W l (o o' : Obj), RdC n xs x v W → W.heap[l]? = some o → o.isCells = false → RdC n xs x v (W.putObj l o') := by
  rintro x v W l o o' ⟨h1, g, cap, rfl, h2⟩ ho hc
  refine ⟨h1, g, cap, rfl, h2.same (World.putObj_heap_other fun e => ?_)⟩
  subst e
  obtain ⟨cur, hc2⟩ := h2.blk
  rw [ho] at hc2
  cases hc2
  cases hc
theorem rdC_below (n : Nat) (xs : List Int) : ∀ x v A B, RdC n xs x v A → Below A.heap.size A B → RdC n xs x v B := by
  rintro x v A B ⟨h1, g, cap, rfl, h2⟩ hb
  exact ⟨h1, g, cap, rfl, h2.belowAll hb⟩
end Go.Proofs.Ytkdgbnjpjkhopaa
