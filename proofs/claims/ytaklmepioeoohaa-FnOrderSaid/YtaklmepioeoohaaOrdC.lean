/- Orders: the iterator over all lists that begin with some places and go on along arcs. Written by gen102.py. -/
import Derived.Test.YtaklmepioeoohaaOrdB
import Derived.Test.YtaklmepioeoohaaPlyI
import Derived.Test.YtaklmepioeoohaaGG
import Derived.Laws.Cover3
namespace Go.Proofs.Ytaklmepioeoohaa
open Go.RowKit Go.Shelf
set_option linter.unusedVariables false
attribute [local go_sem] Oper.semAt_some
theorem extend_all (n s l B : Nat) (C : Nat → Prop) (g N m : Nat) (J : List (List Int) → World → Prop) (Jx : Nat → List (List Int) → World → Prop) (h1 : 1 ≤ n) (h2 : n ≤ 12) (hs : s < 2 ^ n)
    (hJ : ∀ pre X Y, J pre X → Below B X Y → J pre Y) (hJx : ∀ M pre X Y, B ≤ M → Jx M pre X → Outside B M X Y → Jx M pre Y)
    (hY : ∀ pre x v W1, J pre W1 → B ≤ W1.heap.size → RdL n x v W1 → pre.length < N → YieldAt Fence.wide 8 Try.prog l #[v] W1 fun e W' =>
      (e = .returned (.bool true) ∧ J (pre ++ [x]) W' ∧ Stays B C W1 W') ∨ (e = .returned (.bool false) ∧ Jx W1.heap.size (pre ++ [x]) W' ∧ Stays B C W1 W')) :
    ExtOk n s l B C g N m J Jx := by
  induction m with
  | zero => exact extend_zero n s l B C g N J Jx hJ hJx hY
  | succ m ih => exact extend_succ n s l B C g N m J Jx h1 h2 hs hJ hJx ih
/-- A list is appended where there is room. -/
theorem wp_append_fits {o : Oper} {act : Act} {K : Act → World → Prop} {Q : Exit → Act → World → Prop} (s x : Operand) (ho : o.op = .call { callee := .builtin .append, args := #[s, x], argTypes := #[31, 31] })
    (g cap L gb c b : Nat) (xs ys : List Int) (W : World) (N : Nat) (hL : xs.length = L) (hs : act.eval s = .slice (some ⟨g, 0, none⟩) L cap) (hx : act.eval x = .slice (some ⟨gb, 0, none⟩) ys.length c)
    (hO : IsInts W N (.slice (some ⟨g, 0, none⟩) L cap) xs) (hX : IsInts W b (.slice (some ⟨gb, 0, none⟩) ys.length c) ys) (hroom : L + ys.length ≤ cap)
    (h : ∀ (w1 : World), IsInts w1 N (.slice (some ⟨g, 0, none⟩) (L + ys.length) cap) (xs ++ ys) → W.grownBy w1 (some g) → K (act.put o.dst (.slice (some ⟨g, 0, none⟩) (L + ys.length) cap)) w1) : o.wp Try.prog act W K Q := by
  subst hL
  obtain ⟨i0, hi, hz0, hz1, hz2⟩ := info_parts Try.infoQ
  have hc1 := World.ownsRow.cells hX (g := gb) rfl
  have hc2 : ∀ u ∈ ys.map (Value.int .i64), u.oneCell' = true := by
    intro u hu
    obtain ⟨z, _, rfl⟩ := List.mem_map.1 hu
    rfl
  obtain ⟨w1, hr, h2, h3⟩ := run_append_fits (P := Try.prog) W N 31 o.type 3 i0 1 Try.underlying31 hi hz1 g xs.length cap _ hO ⟨gb, 0, none⟩ ys.length c (ys.map (Value.int .i64)) (by simp) hc1 hc2 hroom
  unfold Oper.wp execOp
  simp only [ho, resolve, invoke, builtin, Sem.run_bind, Sem.run_pure, Result.andThen_ok, List.map_toArray, List.map_cons, List.map_nil, hs, hx, hr]
  refine h w1 ?_ h3
  unfold IsInts
  rw [List.length_append, List.map_append]
  exact h2
theorem make_room (n : Nat) (hn : n ≤ 1000) (w : World) :
    (Instr.makeSlice 31 (.int .i64 0) (.int .i64 (n:Int))).run Try.prog w = .ok (.slice (some ⟨w.heap.size, 0, none⟩) 0 n) (w.alloc (.cells (madeCells #[.int .i64 0] n) 3)) := by
  obtain ⟨i0, hi, hz0, hz1, hz2⟩ := info_parts Try.infoQ
  have h := run_make (P := Try.prog) w 31 3 i0 _ Try.underlying31 hi hz0 .i64 .i64 0 (n:Int) (Int.le_refl _) (by omega) (by rw [hz2]; omega) (by omega)
  simp only [hz1, Nat.mul_one, Int.toNat_natCast, Int.toNat_zero] at h
  exact h
theorem made_room (n : Nat) (hn : n ≤ 1000) (w : World) (B : Nat) (hB : B ≤ w.heap.size) : IsInts (w.alloc (.cells (madeCells #[.int .i64 0] n) 3)) B (.slice (some ⟨w.heap.size, 0, none⟩) 0 n) [] :=
  World.ownsRow_made w _ n hB (by unfold maxLen; omega) (by simpa using size_madeCells #[Value.int .i64 0] n)
/-- What a list of places, all below n, begins with. -/
def Begins (n : Nat) (bs : List Int) : Prop := 1 ≤ bs.length ∧ bs.length ≤ n ∧ ∀ i, i < bs.length → bs.getD i 0 = ((atN bs i : Nat) : Int) ∧ atN bs i < n
theorem see_lt (n : Nat) (bs : List Int) (h : Begins n bs) (i : Nat) (hi : i ≤ bs.length) : seeO bs i < 2 ^ n := by
  induction i with
  | zero => exact Nat.two_pow_pos n
  | succ i ih => exact or_pow_lt n _ _ (ih (by omega)) (h.2.2 i (by omega)).2
/-- All orders that begin with a list. -/
def ordersO (n s : Nat) (bs : List Int) : List (List Int) := allO n s (n - bs.length) bs (atN bs (bs.length - 1)) (seeO bs bs.length)
set_option maxHeartbeats 2000000 in
theorem orders1_any (n s l Bb Bs gb cb N : Nat) (bs : List Int) (J : List (List Int) → World → Prop) (Jx : Nat → List (List Int) → World → Prop) (W : World) (h1 : 1 ≤ n) (h2 : n ≤ 12) (hs : s < 2 ^ n) (hbs : Begins n bs)
    (bB : Boxed W Bb 31 (.slice (some ⟨gb, 0, none⟩) bs.length cb)) (bS : Duo W Bs 45 (.int .i64 (n:Int)) (.int .i64 (s:Int))) (hI : IsInts W 0 (.slice (some ⟨gb, 0, none⟩) bs.length cb) bs)
    (hJ : ∀ pre X Y, J pre X → Below W.heap.size X Y → J pre Y) (hJx : ∀ M pre X Y, W.heap.size ≤ M → Jx M pre X → Outside W.heap.size M X Y → Jx M pre Y)
    (hY : ∀ pre x v W1, J pre W1 → W.heap.size ≤ W1.heap.size → RdL n x v W1 → pre.length < N → YieldAt Fence.wide 8 Try.prog l #[v] W1 fun e W' =>
      (e = .returned (.bool true) ∧ J (pre ++ [x]) W' ∧ Stays W.heap.size (fun k => k = Bb ∨ k = Bs) W1 W') ∨ (e = .returned (.bool false) ∧ Jx W1.heap.size (pre ++ [x]) W' ∧ Stays W.heap.size (fun k => k = Bb ∨ k = Bs) W1 W'))
    (hJ0 : J [] W) (hN : 101 ^ (n - bs.length) ≤ N) :
    Calls Try.prog 100 #[.func (.yield l) #[] #[], .pointer (some ⟨Bb, 0, none⟩), .pointer (some ⟨Bs, 0, none⟩)] W fun e W' => (∃ v, e = .returned v) ∧
      ((∃ xs, xs = ordersO n s bs ∧ J xs W') ∨ (∃ M pre, W.heap.size ≤ M ∧ pre <+: ordersO n s bs ∧ Jx M pre W')) := by
  obtain ⟨hl1, hln, hel⟩ := hbs
  have hmx : Try.prog.follows .mixedOrders = true := by kernel_rfl
  have hp := pow_le n h2
  have HSl := Lib.hid (see_lt n bs ⟨hl1, hln, hel⟩)
  have HEl := Lib.hid hel
  have HX : Hid (∀ g V, W.heap.size ≤ V.heap.size → IsInts V W.heap.size (.slice (some ⟨g, 0, none⟩) bs.length n) bs → J [] V →
      Calls Try.prog 101 #[.agg #[.int .i64 (n:Int), .int .i64 (s:Int)], .slice (some ⟨g, 0, none⟩) bs.length n, .int .i64 ((seeO bs bs.length : Nat) : Int), .func (.yield l) #[] #[]] V (ExtPost W.heap.size (fun k => k = Bb ∨ k = Bs) g n J Jx bs [] (ordersO n s bs) V)) :=
    Lib.hid (fun g V hz hV hj => extend_all n s l W.heap.size (fun k => k = Bb ∨ k = Bs) g N (n - bs.length) J Jx h1 h2 hs hJ hJx hY bs (atN bs (bs.length - 1)) (seeO bs bs.length) [] V (by omega) hl1 (hel _ (by omega)).1 (hel _ (by omega)).2 (see_lt n bs ⟨hl1, hln, hel⟩ _ (Nat.le_refl _)) hV hj (by simpa using hN))
  have HJ := Lib.hid hJ
  have HJ0 := Lib.hid hJ0
  have HI := Lib.hid hI
  have HLn := Lib.hid (⟨hl1, hln⟩ : 1 ≤ bs.length ∧ bs.length ≤ n)
  have HBb := Lib.hid bB
  have HBs := Lib.hid bS
  have c0 := bB.cell
  clear hJ hJx hY hJ0 hN hI hel bB bS
  go_enter Try.func100, Try.ntmps100
  go_wp2
  go_loopw [4, 6, 9] (fun u v6 v wr => ∃ i : Nat, i ≤ bs.length ∧ u = .int .i64 ((seeO bs i : Nat) : Int) ∧ v = .int .i64 (i : Int) ∧ W = wr) (fun _ _ v _ => bs.length - (intOf v).toNat)
  case atStart => exact ⟨0, Nat.zero_le _, rfl, rfl, rfl⟩
  case round =>
    obtain ⟨i, hi, rfl, rfl, hw⟩ := hrel
    subst hw
    by_cases hlt : i < bs.length
    · have c1 := HI.out.cell hlt
      obtain ⟨e1, e2⟩ := HEl.out i hlt
      rw [e1] at c1
      have hb := HSl.out i (by omega)
      have i1 : (0 : Int) ≤ (i : Int) := by omega
      have i2 : (i : Int) < (bs.length : Int) := by omega
      have hwk : IntKind.i64.wrap ((i : Int) + 1) = ((i + 1 : Nat) : Int) := by rw [IntWalk.i64_in _ ⟨by omega, by omega⟩]; rfl
      have HE : Hid (seeO bs (i + 1) = seeO bs i ||| 2 ^ atN bs i) := Lib.hid rfl
      have Hwith := Lib.hid (fun V => with_any (seeO bs i) (atN bs i) V (by omega) (by omega))
      generalize atN bs i = z at *
      generalize seeO bs i = y at *
      clear e1 hb
      go_wp2_with (go_at_call 77; refine (Hwith.out _).mono ?_; rintro e w2 ⟨rfl, rfl⟩)
      go_roundw
      case rel => exact ⟨i + 1, by omega, by rw [HE.out], by go_num, by first | rfl | trivial⟩
      case measure => simp [intOf]; omega
    · obtain rfl : i = bs.length := by omega
      have i2 : ¬ ((bs.length : Int) < (bs.length : Int)) := by omega
      clear hlt hi
      go_wp2
      have hA0 : Boxed W.drew Bb 31 (.slice (some ⟨gb, 0, none⟩) bs.length cb) ∧ Duo W.drew Bs 45 (.int .i64 (n:Int)) (.int .i64 (s:Int)) := ⟨HBb.out, HBs.out⟩
      refine wp_region_held_drew (S := fun V => Boxed V Bb 31 (.slice (some ⟨gb, 0, none⟩) bs.length cb) ∧ Duo V Bs 45 (.int .i64 (n:Int)) (.int .i64 (s:Int))) hmx hA0 (fun _ => ?_)
      have hmk := make_room n (by omega) W.drew
      refine take1 0 (v := ?_) rfl (by kernel_rfl) (by kernel_rfl) (by kernel_rfl) (fun _ _ _ h => h) (by rfl) ?_ hA0 ?_
      rotate_left
      · intro W9 hA
        obtain ⟨hq, hp⟩ := hA
        have c0 := hq.cell
        have c1 := hp.cell0
        have c2 := hp.cell1
        clear hq hp
        go_simp
        try with_reducible rfl
      try simp only [Act.put, List.setIfInBounds_toArray, List.set_cons_zero, List.set_cons_succ]
      refine take1 1 (v := ?_) rfl (by kernel_rfl) (by kernel_rfl) (by kernel_rfl) (fun _ _ _ h => h) (by rfl) ?_ hA0 ?_
      rotate_left
      · intro W9 hA
        obtain ⟨hq, hp⟩ := hA
        have c0 := hq.cell
        have c1 := hp.cell0
        have c2 := hp.cell1
        clear hq hp
        go_simp
        try with_reducible rfl
      try simp only [Act.put, List.setIfInBounds_toArray, List.set_cons_zero, List.set_cons_succ]
      refine take1 2 (v := ?_) rfl (by kernel_rfl) (by kernel_rfl) (by kernel_rfl) (fun _ _ _ h => h) (by rfl) ?_ hA0 ?_
      rotate_left
      · intro W9 hA
        obtain ⟨hq, hp⟩ := hA
        have c0 := hq.cell
        have c1 := hp.cell0
        have c2 := hp.cell1
        clear hq hp
        go_simp
        try with_reducible rfl
      try simp only [Act.put, List.setIfInBounds_toArray, List.set_cons_zero, List.set_cons_succ]
      refine take1 3 (v := ?_) rfl (by kernel_rfl) (by kernel_rfl) (by kernel_rfl) (fun _ _ _ h => h) (by rfl) ?_ hA0 ?_
      rotate_left
      · intro W9 hA
        obtain ⟨hq, hp⟩ := hA
        have c0 := hq.cell
        have c1 := hp.cell0
        have c2 := hp.cell1
        clear hq hp
        go_simp
        try with_reducible rfl
      try simp only [Act.put, List.setIfInBounds_toArray, List.set_cons_zero, List.set_cons_succ]
      refine take1 5 (v := ?_) rfl (by kernel_rfl) (by kernel_rfl) (by kernel_rfl) (fun _ _ _ h => h) (by rfl) ?_ hA0 ?_
      rotate_left
      · intro W9 hA
        obtain ⟨hq, hp⟩ := hA
        have c0 := hq.cell
        have c1 := hp.cell0
        have c2 := hp.cell1
        clear hq hp
        go_simp
        try with_reducible rfl
      try simp only [Act.put, List.setIfInBounds_toArray, List.set_cons_zero, List.set_cons_succ]
      refine take1 7 (v := ?_) rfl (by kernel_rfl) (by kernel_rfl) (by kernel_rfl) (fun _ _ _ h => h) (by rfl) ?_ hA0 ?_
      rotate_left
      · intro W9 hA
        obtain ⟨hq, hp⟩ := hA
        have c0 := hq.cell
        have c1 := hp.cell0
        have c2 := hp.cell1
        clear hq hp
        go_simp
        try with_reducible rfl
      try simp only [Act.put, List.setIfInBounds_toArray, List.set_cons_zero, List.set_cons_succ]
      refine take1 8 (v := ?_) rfl (by kernel_rfl) (by kernel_rfl) (by kernel_rfl) (fun _ _ _ h => h) (by rfl) ?_ hA0 ?_
      rotate_left
      · intro W9 hA
        obtain ⟨hq, hp⟩ := hA
        have c0 := hq.cell
        have c1 := hp.cell0
        have c2 := hp.cell1
        clear hq hp
        go_simp
        try with_reducible rfl
      try simp only [Act.put, List.setIfInBounds_toArray, List.set_cons_zero, List.set_cons_succ]
      refine step1 4 (by kernel_rfl) rfl (fun K hK => ?_)
      go_simp
      have hB4 : Below W.heap.size W (W.drew.alloc (.cells (madeCells #[.int .i64 0] n) 3)) := (Below.refl _ W).drew.alloc (Nat.le_refl _) _
      have HR4 := Lib.hid (made_room n (by omega) W.drew W.heap.size (Nat.le_refl _))
      have HX4 := Lib.hid (HI.out.belowAll hB4)
      have hA4 : Boxed (W.drew.alloc (.cells (madeCells #[.int .i64 0] n) 3)) Bb 31 (.slice (some ⟨gb, 0, none⟩) bs.length cb) ∧ Duo (W.drew.alloc (.cells (madeCells #[.int .i64 0] n) 3)) Bs 45 (.int .i64 (n:Int)) (.int .i64 (s:Int)) := ⟨boxed_below HBb.out HBb.out.lt hB4, duo_below HBs.out HBs.out.lt hB4⟩
      refine hK.out _ _ hA4 ?_
      clear hK K
      try simp only [Act.put, List.setIfInBounds_toArray, List.set_cons_zero, List.set_cons_succ]
      refine step1 6 (by kernel_rfl) rfl (fun K hK => ?_)
      rw [if_pos (by rfl)]
      refine wp_append_fits (.tmp 21) (.tmp 22) rfl W.drew.heap.size n 0 gb cb 0 [] bs (W.drew.alloc (.cells (madeCells #[.int .i64 0] n) 3)) W.heap.size rfl rfl rfl HR4.out HX4.out (by have := HLn.out; omega) (fun W6 hI6 hg6 => ?_)
      rw [List.nil_append, Nat.zero_add] at hI6
      have hB6 : Below W.heap.size W W6 := hB4.grown hg6 (by simp) (fun k hk => by cases hk; exact Nat.le_refl _)
      have hA6 : Boxed W6 Bb 31 (.slice (some ⟨gb, 0, none⟩) bs.length cb) ∧ Duo W6 Bs 45 (.int .i64 (n:Int)) (.int .i64 (s:Int)) := ⟨boxed_below HBb.out HBb.out.lt hB6, duo_below HBs.out HBs.out.lt hB6⟩
      have HI6 := Lib.hid hI6
      have HJ6 := Lib.hid (HJ.out _ _ _ HJ0.out hB6)
      have HZ6 := Lib.hid hB6.size
      clear hI6 hg6
      refine hK.out _ _ hA6 ?_
      clear hK K
      try simp only [Nat.zero_add]
      try simp only [Act.put, List.setIfInBounds_toArray, List.set_cons_zero, List.set_cons_succ]
      refine step1 9 (by kernel_rfl) rfl (fun K hK => ?_)
      go_simp
      refine (HX.out W.heap.size W6 HZ6.out HI6.out HJ6.out).mono ?_
      have hgb : gb < W.heap.size := (World.ownsRow.lt HI.out gb rfl).2
      have hbb := HBb.out.lt
      have hbs := HBs.out.lt
      rintro e W9 ⟨hS9, (⟨rfl, hJ9⟩ | ⟨rfl, M, q, hM, hq, hJ9⟩)⟩
      all_goals
        have hA9 : Boxed W9 Bb 31 (.slice (some ⟨gb, 0, none⟩) bs.length cb) ∧ Duo W9 Bs 45 (.int .i64 (n:Int)) (.int .i64 (s:Int)) := ⟨(hS9.block Bb (.inr (.inl rfl)) hA6.1.lt (by omega)).trans hA6.1, (hS9.block Bs (.inr (.inr rfl)) hA6.2.lt (by omega)).trans hA6.2⟩
        go_wp2_with fail
        refine hK.out _ _ hA9 ?_
        clear hK K
        try simp only [Act.put, List.setIfInBounds_toArray, List.set_cons_zero, List.set_cons_succ]
        refine stop1 (by kernel_rfl) ?_
        go_wp2
        go_end0
      · exact ⟨⟨_, rfl⟩, .inl ⟨_, rfl, hJ9⟩⟩
      · exact ⟨⟨_, rfl⟩, .inr ⟨M, q, Nat.le_trans HZ6.out hM, hq, hJ9⟩⟩
theorem orders_any (n s : Nat) (ad : Option Addr) (len cap : Nat) (w : World) :
    Calls Try.prog 90 #[.agg #[.int .i64 (n:Int), .int .i64 (s:Int)], .slice ad len cap] w fun e w' => e = .returned (.func (.func 100) #[] #[.pointer (some ⟨w.heap.size + 1, 0, none⟩), .pointer (some ⟨w.heap.size, 0, none⟩)]) ∧ w' = (w.alloc (.cells #[.int .i64 (n:Int), .int .i64 (s:Int)] 45)).alloc (.cells #[.slice ad len cap] 31) := by
  go_enter Try.func90, Try.ntmps90
  go_wp2
  go_ret
  exact ⟨rfl, rfl⟩
/-- The iterator's promise. -/
theorem orders_reads (n s Bb Bs gb cb N : Nat) (bs : List Int) (w : World) (h1 : 1 ≤ n) (h2 : n ≤ 12) (hs : s < 2 ^ n) (hbs : Begins n bs)
    (bB : Boxed w Bb 31 (.slice (some ⟨gb, 0, none⟩) bs.length cb)) (bS : Duo w Bs 45 (.int .i64 (n:Int)) (.int .i64 (s:Int))) (hI : IsInts w 0 (.slice (some ⟨gb, 0, none⟩) bs.length cb) bs) (hN : 101 ^ (n - bs.length) ≤ N) :
    SeqReads Fence.wide 9 Try.prog 100 #[.pointer (some ⟨Bb, 0, none⟩), .pointer (some ⟨Bs, 0, none⟩)] (fun k => k = Bb ∨ k = Bs) (RdL n) (fun ys => ys = ordersO n s bs) (fun pre => pre <+: ordersO n s bs) N w := by
  intro l J Jx W hW hJ hJx hY h0
  exact callsIn_wide.2 (orders1_any n s l Bb Bs gb cb N bs J Jx W h1 h2 hs hbs (boxed_below bB bB.lt hW) (duo_below bS bS.lt hW) (hI.belowAll hW) hJ hJx hY h0 hN)
theorem rdL_put (n : Nat) : ∀ x v W l (o o' : Obj), RdL n x v W → W.heap[l]? = some o → o.isCells = false → RdL n x v (W.putObj l o') := by
  rintro x v W l o o' ⟨h1, g, rfl, h2⟩ ho hc
  exact ⟨h1, g, rfl, ownsRow_putObj h2 o' ho hc⟩
/-- A copy of a list of one's own. -/
theorem clone_any (n : Nat) (x : List Int) (v : Value) (w : World) (h1 : 1 ≤ n) (h2 : n ≤ 12) (hR : RdL n x v w) :
    Calls Try.prog 91 #[v] w fun e w' => ∃ sv, e = .returned sv ∧ Below w.heap.size w w' ∧ IsInts w' w.heap.size sv x := by
  obtain ⟨hl, g, rfl, hI⟩ := hR
  have hI1 : IsInts w 0 (.slice (some ⟨g, 0, none⟩) x.length n) x := by rw [hl]; exact hI
  have hgw := (World.ownsRow.lt hI g rfl).2
  have hB1 : Below w.heap.size w (w.alloc (.cells #[] 3)) := (Below.refl _ _).alloc (Nat.le_refl _) _
  have HI := Lib.hid (hI1.belowAll hB1)
  have HN := Lib.hid (nil_made w w.heap.size (Nat.le_refl _))
  have HL := Lib.hid hl
  have HB := Lib.hid hB1
  have HZ : Hid (w.heap.size ≤ (w.alloc (.cells #[] 3)).heap.size) := Lib.hid hB1.size
  clear hI hI1 hB1 hl
  go_enter Try.func91, Try.ntmps91
  have hq : (binOp .eql 31 (.slice (some ⟨g, 0, none⟩) n n) (.slice none 0 0)).run Try.prog w = .ok (.bool false) w := by
    simp only [binOp]
    simp [run_equal_slice_nil w 31 3 _ _ _ Try.underlying31]
  go_wp2_with (at_builtin; refine BigFrame.wpList_want rfl (fun K hK => ?_); refine wp_append_any (.tmp 5) (.tmp 6) rfl (.slice (some ⟨w.heap.size, 0, none⟩) 0 0) [] x (w.alloc (.cells #[] 3)) w.heap.size g n 0 rfl (by rw [HL.out]; rfl) HN.out HI.out (by have := HL.out; simp; omega) HZ.out (fun v2 W2 hI2 _ hb2 _ => ?_); have HI2 := Lib.hid hI2; have HB2 := Lib.hid (hb2 w.heap.size w (Nat.le_refl _) HB.out); clear hI2 hb2; refine hK _ _ ?_; clear hK)
  go_ret
  exact ⟨_, rfl, HB2.out, by have h := HI2.out; rw [List.nil_append] at h; exact h⟩
end Go.Proofs.Ytaklmepioeoohaa
