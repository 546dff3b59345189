/- RingCounts: the program. -/
import Derived.Test.YtaklmepioeoohaaGD
namespace Go.Proofs.Ytaklmepioeoohaa
open Go.RowKit Go.Shelf
set_option linter.unusedVariables false
attribute [local go_sem] Oper.semAt_some
theorem ints_own {β : Type} (b : Nat) (v : Value) (f : β → List Int) : Own (fun s W => IsInts W b v (f s)) := fun s X Y row hs hg hrow =>
  World.ownsRow.kept hs hg (by
    cases hv : v.ownBlock with
    | none => exact .inl rfl
    | some g =>
      refine .inr (fun e => ?_)
      obtain ⟨o, ho, hc⟩ := hrow g e.symm
      rcases hs.2 with ⟨rfl, _⟩ | ⟨g', cap, cur, rfl, _, hg', _⟩
      · simp [Value.ownBlock] at hv
      · simp only [Value.ownBlock, Option.some.injEq] at hv
        subst hv
        rw [hg'] at ho; cases ho; simp [Obj.isCells] at hc)
/-- What the places that have come have made of a list. -/
def foldL (f : Nat → List Int → List Int) (a : List Int) (pre : List Nat) : List Int := pre.foldl (fun x v => f v x) a
theorem foldL_snoc (f : Nat → List Int → List Int) (a : List Int) {r : Nat} (pre : List (Fin r)) (x : Fin r) : foldL f a (vals (pre ++ [x])) = f x.val (foldL f a (vals pre)) := by simp [foldL, vals_snoc]
theorem foldL_come (f : Nat → List Int → List Int) (a : List Int) (n s : Nat) : foldL f a (vals (comeTo n s n)) = overSet s f n a := by
  unfold foldL
  rw [vals_fold]
  exact comeTo_fold n s f a n (Nat.le_refl n)
theorem foldL_len (f : Nat → List Int → List Int) (hf : ∀ v xs, (f v xs).length = xs.length) (a : List Int) (pre : List Nat) : (foldL f a pre).length = a.length := by
  unfold foldL
  induction pre generalizing a with
  | nil => rfl
  | cons v pre ih => simp only [List.foldl_cons]; rw [ih, hf]
theorem foldL_bd (f : Nat → List Int → List Int) (c d : Nat) (hf : ∀ v xs c, Bd c xs → Bd (c + d) (f v xs)) (a : List Int) (ha : Bd c a) (pre : List Nat) : Bd (c + d * pre.length) (foldL f a pre) := by
  unfold foldL
  induction pre generalizing a c with
  | nil => exact ha
  | cons v pre ih =>
    simp only [List.foldl_cons, List.length_cons]
    have := ih (c + d) (f v a) (hf v a c ha)
    exact this.mono (by rw [Nat.mul_succ]; omega)
theorem Bd.zeros (n : Nat) : Bd 0 (List.replicate n 0) := by
  intro i
  rw [List.getD_eq_getElem?_getD, List.getElem?_replicate]
  split <;> simp
def outF (n b : Nat) (pre : List Nat) : List Int := foldL (fun v xs => rowC n b v n xs) (List.replicate n 0) pre
def innF (n v : Nat) (xs : List Int) (pre : List Nat) : List Int := foldL (stepC n v) xs pre
theorem outF_len (n b : Nat) (pre : List Nat) : (outF n b pre).length = n := by
  unfold outF; rw [foldL_len _ (fun v xs => rowC_len n b v n xs), List.length_replicate]
theorem innF_len (n v : Nat) (xs : List Int) (pre : List Nat) : (innF n v xs pre).length = xs.length := foldL_len _ (fun w xs => stepC_len n v w xs) xs pre
theorem innF_bd (n b v : Nat) (pre pre' : List Nat) (h1 : pre.length < 100) (h2 : pre'.length < 100) (hn : n ≤ 12) : Bd 2000 (innF n v (outF n b pre) pre') := by
  have h := foldL_bd (fun v xs => rowC n b v n xs) 0 n (fun v xs c hc => rowC_bd hc) _ (Bd.zeros n) pre
  have h' := foldL_bd (stepC n v) _ 1 (fun w xs c hc => hc.step) _ h pre'
  have : n * pre.length ≤ 12 * 100 := Nat.mul_le_mul hn (by omega)
  exact h'.mono (by omega)
theorem rest_sum (n v w : Nat) (h1 : 1 ≤ n) : rest n ((v : Int) + (w : Int)) = (v + w) % n := by
  have hj : rest n (w : Int) = w % n := by
    have := rest_add n w 0 h1
    simpa [rest] using this
  rw [rest_add n v _ h1, hj, Nat.add_mod_mod]
set_option maxRecDepth 100000 in
set_option maxHeartbeats 600000 in
theorem counts_any (n a b : Nat) (w : World) (h1 : 1 ≤ n) (h2 : n ≤ 12) (ha : a < 2 ^ n) (hb : b < 2 ^ n) :
    Calls Try.prog 97 #[.agg #[.int .i64 (n:Int)], .int .i64 (a:Int), .int .i64 (b:Int)] w fun e w' =>
      e = .returned (.slice (some ⟨w.heap.size + 1 + 1, 0, none⟩) n n) ∧ Below w.heap.size w w' ∧ IsInts w' w.heap.size (.slice (some ⟨w.heap.size + 1 + 1, 0, none⟩) n n) (countsN n a b n) := by
  have hmk := make_ints n (by omega)
  have HMd := Lib.hid (fun w => made_ints n (by omega) w)
  refine (callsIn_wide (n := 12)).1 ?_
  refine callsIn_of_wp_marks Try.func97 rfl trivial ?_ rfl
  simp only [Try.ntmps97, List.size_toArray, List.length_cons, List.length_nil, Nat.reduceAdd, Nat.reduceSub, Array.replicate_succ, Array.replicate_zero, List.push_toArray, List.append_toArray, List.nil_append, List.cons_append]
  gi_wp2_with (refine ⟨trivial, ?_⟩; gi_at_call 76; refine (callsIn_wide.2 (places_any _ _)).mono ?_; rintro e w' ⟨rfl, rfl⟩)
  have bR := ((((Boxed.new w 42 (.int .i64 (n:Int))).alloc (.cells #[.int .i64 (b:Int)] 43)).alloc (.cells (madeCells #[.int .i64 0] n) 3)).alloc (.cells #[.slice (some ⟨w.heap.size + 1 + 1, 0, none⟩) n n] 31)).alloc (.cells #[.int .i64 (a:Int)] 43)
  have bB := (((Boxed.new (w.alloc (.cells #[.int .i64 (n:Int)] 42)) 43 (.int .i64 (b:Int))).alloc (.cells (madeCells #[.int .i64 0] n) 3)).alloc (.cells #[.slice (some ⟨w.heap.size + 1 + 1, 0, none⟩) n n] 31)).alloc (.cells #[.int .i64 (a:Int)] 43)
  have bW := (Boxed.new (((w.alloc (.cells #[.int .i64 (n:Int)] 42)).alloc (.cells #[.int .i64 (b:Int)] 43)).alloc (.cells (madeCells #[.int .i64 0] n) 3)) 31 (.slice (some ⟨w.heap.size + 1 + 1, 0, none⟩) n n)).alloc (.cells #[.int .i64 (a:Int)] 43)
  have bP := Boxed.new ((((w.alloc (.cells #[.int .i64 (n:Int)] 42)).alloc (.cells #[.int .i64 (b:Int)] 43)).alloc (.cells (madeCells #[.int .i64 0] n) 3)).alloc (.cells #[.slice (some ⟨w.heap.size + 1 + 1, 0, none⟩) n n] 31)) 43 (.int .i64 (a:Int))
  have hM0 := HMd.out ((w.alloc (.cells #[.int .i64 (n:Int)] 42)).alloc (.cells #[.int .i64 (b:Int)] 43))
  have hM1 : IsInts (((((w.alloc (.cells #[.int .i64 (n:Int)] 42)).alloc (.cells #[.int .i64 (b:Int)] 43)).alloc (.cells (madeCells #[.int .i64 0] n) 3)).alloc (.cells #[.slice (some ⟨w.heap.size + 1 + 1, 0, none⟩) n n] 31)).alloc (.cells #[.int .i64 (a:Int)] 43)) w.heap.size (.slice (some ⟨w.heap.size + 1 + 1, 0, none⟩) n n) (List.replicate n 0) := by
    have h := World.ownsRow.alloc (World.ownsRow.alloc hM0 (.cells #[.slice (some ⟨w.heap.size + 1 + 1, 0, none⟩) n n] 31)) (.cells #[.int .i64 (a:Int)] 43)
    have h' : IsInts (((((w.alloc (.cells #[.int .i64 (n:Int)] 42)).alloc (.cells #[.int .i64 (b:Int)] 43)).alloc (.cells (madeCells #[.int .i64 0] n) 3)).alloc (.cells #[.slice (some ⟨w.heap.size + 1 + 1, 0, none⟩) n n] 31)).alloc (.cells #[.int .i64 (a:Int)] 43)) ((w.alloc (.cells #[.int .i64 (n:Int)] 42)).alloc (.cells #[.int .i64 (b:Int)] 43)).heap.size (.slice (some ⟨((w.alloc (.cells #[.int .i64 (n:Int)] 42)).alloc (.cells #[.int .i64 (b:Int)] 43)).heap.size, 0, none⟩) n n) (List.replicate n 0) := h
    rw [World.size_alloc, World.size_alloc] at h'
    exact h'.base (by omega)
  simp only [World.size_alloc] at bB bW bP
  have hB0 : Below w.heap.size w (((((w.alloc (.cells #[.int .i64 (n:Int)] 42)).alloc (.cells #[.int .i64 (b:Int)] 43)).alloc (.cells (madeCells #[.int .i64 0] n) 3)).alloc (.cells #[.slice (some ⟨w.heap.size + 1 + 1, 0, none⟩) n n] 31)).alloc (.cells #[.int .i64 (a:Int)] 43)) :=
    (((((Below.refl _ w).alloc (Nat.le_refl _) _).alloc (by simp) _).alloc (by simp; omega) _).alloc (by simp; omega) _).alloc (by simp; omega) _
  have hsz : (((((w.alloc (.cells #[.int .i64 (n:Int)] 42)).alloc (.cells #[.int .i64 (b:Int)] 43)).alloc (.cells (madeCells #[.int .i64 0] n) 3)).alloc (.cells #[.slice (some ⟨w.heap.size + 1 + 1, 0, none⟩) n n] 31)).alloc (.cells #[.int .i64 (a:Int)] 43)).heap.size = w.heap.size + 5 := by simp
  clear hM0
  obtain ⟨W0, hW0⟩ : ∃ W0, (((((w.alloc (.cells #[.int .i64 (n:Int)] 42)).alloc (.cells #[.int .i64 (b:Int)] 43)).alloc (.cells (madeCells #[.int .i64 0] n) 3)).alloc (.cells #[.slice (some ⟨w.heap.size + 1 + 1, 0, none⟩) n n] 31)).alloc (.cells #[.int .i64 (a:Int)] 43)) = W0 := ⟨_, rfl⟩
  rw [hW0] at bR bB bW bP hM1 hB0 hsz ⊢
  clear hW0 hmk
  refine wpIn_rangeFunc_ownH rfl (by omega) (gf := 93) (lb := #[.pointer (some ⟨w.heap.size + 1 + 1 + 1 + 1, 0, none⟩)]) rfl trivial (enters_of Try.func93 (by kernel_rfl) rfl)
    (places_stops 11 (by omega) (w.heap.size + 1 + 1 + 1 + 1) w.heap.size n a ha h2 W0 bP) KB.trans (KB.put (by omega)) (Below.refl _ _) (fun _ => rfl)
    (fun pre W => (((Boxed W (w.heap.size) 42 (.int .i64 (n:Int)) ∧ Boxed W (w.heap.size + 1) 43 (.int .i64 (b:Int))) ∧ Boxed W (w.heap.size + 1 + 1 + 1) 31 (.slice (some ⟨w.heap.size + 1 + 1, 0, none⟩) n n)) ∧ IsInts W w.heap.size (.slice (some ⟨w.heap.size + 1 + 1, 0, none⟩) n n) (outF n b (vals pre))) ∧ Below w.heap.size w W)
    (fun _ _ _ => False)
    (OwnFrom.and (OwnFrom.and (OwnFrom.and (OwnFrom.and (Own.from (boxed_own _ _ _) _) (Own.from (boxed_own _ _ _) _)) (Own.from (boxed_own _ _ _) _)) (Own.from (ints_own _ _ (fun pre => outF n b (vals pre))) _)) (ownFrom_below (Nat.le_refl _) (by omega)))
    (fun _ _ _ _ _ hs _ _ => hs)
    ⟨⟨⟨⟨bR, bB⟩, bW⟩, hM1⟩, hB0⟩
    (fun x a' W => ∃ Bx, w.heap.size + 1 + 1 + 1 < Bx ∧ Boxed W Bx 3 (.int .i64 (x.val : Int)) ∧ a' = { tmps := #[.agg #[.int .i64 (n:Int)], .int .i64 (a:Int), .int .i64 (b:Int), .pointer (some ⟨w.heap.size, 0, none⟩), undef, .pointer (some ⟨w.heap.size + 1, 0, none⟩), .slice none 0 0, .pointer (some ⟨w.heap.size + 1 + 1 + 1, 0, none⟩), .pointer (some ⟨Bx, 0, none⟩), undef, .pointer (some ⟨w.heap.size, 0, none⟩), .int .i64 (n:Int), .slice (some ⟨w.heap.size + 1 + 1, 0, none⟩) n n, .int .i64 (a:Int), .func (.func 93) #[] #[.pointer (some ⟨w.heap.size + 1 + 1 + 1 + 1, 0, none⟩)], .int .i64 (x.val : Int), undef, undef, undef, undef, undef, undef, undef, undef, undef, undef, undef, undef, undef, undef], defers := [] })
    (fun x a' _ X Y row hs hg hr => by obtain ⟨Bx, h1, h2, h3⟩ := hs; exact ⟨Bx, h1, boxed_own Bx 3 (fun (_ : Unit) => Value.int .i64 (x.val : Int)) () X Y row h2 hg (fun r e => (hr r e).2), h3⟩)
    ?assign ?body ?done ?stop
  case assign =>
    rintro l pre x W K ⟨⟨⟨⟨bR1, bB1⟩, bW1⟩, hI1⟩, hB1⟩ hK
    have lW := bW1.lt
    have HI1 := Lib.hid hI1
    clear hI1
    gi_wp2
    exact hK _ _ ((KeepsOthers.alloc _ _).from _) ⟨fun t v hb => hb.alloc _, (Below.refl _ W).alloc hB1.size _⟩ ⟨⟨⟨⟨bR1.alloc _, bB1.alloc _⟩, bW1.alloc _⟩, World.ownsRow.alloc HI1.out _⟩, hB1.alloc hB1.size _⟩ ⟨W.heap.size, lW, Boxed.new W 3 _, rfl⟩
  case body =>
    rintro l pre x a' W hl ⟨r, hr⟩ ⟨⟨⟨⟨bR1, bB1⟩, bW1⟩, hI1⟩, hB1⟩ ⟨Bx, hBx, bX, rfl⟩ hlt
    have HI1 := Lib.hid hI1
    clear hI1
    have cB := bB1.cell
    have lW1 := bW1.lt
    gi_wp2_with (refine ⟨trivial, ?_⟩; gi_at_call 76; refine (CallsIn.inRound l (callsIn_wide.2 (places_any _ _))).mono ?_; rintro e w' ⟨rfl, rfl⟩)
    have hsW := hB1.size
    have bN := Boxed.new W 43 (.int .i64 (b:Int))
    have hr' : (W.alloc (.cells #[.int .i64 (b:Int)] 43)).heap[l]? = some (.loop r) := (Below.heap_alloc W _ l (Array.getElem?_eq_some_iff.1 hr).1).trans hr
    refine wpIn_rangeFunc_ownN (l₀ := l) (r₀ := r) rfl hr' (by omega) (gf := 93) (lb := #[.pointer (some ⟨W.heap.size, 0, none⟩)]) rfl trivial (enters_of Try.func93 (by kernel_rfl) rfl)
      ((places_stops (12 - 1 - 1 - 1) (by omega) W.heap.size w.heap.size n b hb h2 _ bN).inRound l) KB.trans (KB.put (by simp; omega)) (Below.refl _ _) (fun _ => rfl)
      (fun pre' W' => ((((Boxed W' (w.heap.size) 42 (.int .i64 (n:Int)) ∧ Boxed W' (w.heap.size + 1) 43 (.int .i64 (b:Int))) ∧ Boxed W' (w.heap.size + 1 + 1 + 1) 31 (.slice (some ⟨w.heap.size + 1 + 1, 0, none⟩) n n)) ∧ Boxed W' Bx 3 (.int .i64 (x.val : Int))) ∧ IsInts W' w.heap.size (.slice (some ⟨w.heap.size + 1 + 1, 0, none⟩) n n) (innF n x.val (outF n b (vals pre)) (vals pre'))) ∧ (KB (w.heap.size + 1 + 1 + 1 + 1) w.heap.size W W' ∧ KeepsFrom W0.heap.size W W'))
      (fun _ _ _ => False)
      (OwnFrom.and (OwnFrom.and (OwnFrom.and (OwnFrom.and (OwnFrom.and (Own.from (boxed_own _ _ _) _) (Own.from (boxed_own _ _ _) _)) (Own.from (boxed_own _ _ _) _)) (Own.from (boxed_own _ _ _) _)) (Own.from (ints_own _ _ (fun pre' => innF n x.val (outF n b (vals pre)) (vals pre'))) _)) (OwnFrom.and (ownFrom_kb hsW (by simp; omega)) (ownFrom_keepsFrom (by simp))))
      (fun _ _ _ _ _ hs _ _ => hs)
      ⟨⟨⟨⟨⟨bR1.alloc _, bB1.alloc _⟩, bW1.alloc _⟩, bX.alloc _⟩, World.ownsRow.alloc HI1.out _⟩, ⟨fun t v hb => hb.alloc _, (Below.refl _ W).alloc hsW _⟩, (KeepsOthers.alloc _ _).from _⟩
      (fun y a'' _ => a'' = { tmps := #[.agg #[.int .i64 (n:Int)], .int .i64 (a:Int), .int .i64 (b:Int), .pointer (some ⟨w.heap.size, 0, none⟩), undef, .pointer (some ⟨w.heap.size + 1, 0, none⟩), .slice none 0 0, .pointer (some ⟨w.heap.size + 1 + 1 + 1, 0, none⟩), .pointer (some ⟨Bx, 0, none⟩), .int .i64 (y.val : Int), .pointer (some ⟨w.heap.size, 0, none⟩), .int .i64 (n:Int), .slice (some ⟨w.heap.size + 1 + 1, 0, none⟩) n n, .int .i64 (a:Int), .func (.func 93) #[] #[.pointer (some ⟨w.heap.size + 1 + 1 + 1 + 1, 0, none⟩)], .int .i64 (x.val : Int), .int .i64 (b:Int), .func (.func 93) #[] #[.pointer (some ⟨W.heap.size, 0, none⟩)], .int .i64 (y.val : Int), undef, undef, undef, undef, undef, undef, undef, undef, undef, undef, undef], defers := [] })
      (fun _ _ _ _ _ _ hs _ _ => hs)
      ?assign2 ?body2 ?done2 ?stop2
    case assign2 =>
      rintro l2 pre' y W' K hi hK
      gi_wp2
      exact hK _ _ (KeepsFrom.refl _ _) (KB.refl _ _ _) hi rfl
    case body2 =>
      rintro l2 pre' y a'' W' _ _ ⟨⟨⟨⟨⟨bR2, bB2⟩, bW2⟩, bX2⟩, hI2⟩, hKB, hKF⟩ rfl hlt2
      have hx := x.isLt
      have hy := y.isLt
      have hmx : Try.prog.follows .mixedOrders = true := by kernel_rfl
      have hlen : (innF n x.val (outF n b (vals pre)) (vals pre')).length = n := by rw [innF_len, outF_len]
      have hml : (x.val + y.val) % n < n := Nat.mod_lt _ (by omega)
      have hpl : (vals pre).length < 100 := by simpa [vals] using hlt
      have hpl2 : (vals pre').length < 100 := by simpa [vals] using hlt2
      obtain ⟨hz0, hz1⟩ := innF_bd n b x.val (vals pre) (vals pre') hpl hpl2 h2 ((x.val + y.val) % n)
      have Hrest := Lib.hid (fun W => rest_any n ((x.val : Int) + (y.val : Int)) W h1 h2 ⟨by omega, by omega⟩)
      have hrs := rest_sum n x.val y.val h1
      have HS := Lib.hid (show innF n x.val (outF n b (vals pre)) (vals (pre' ++ [y])) = (innF n x.val (outF n b (vals pre)) (vals pre')).set ((x.val + y.val) % n) ((innF n x.val (outF n b (vals pre)) (vals pre')).getD ((x.val + y.val) % n) 0 + 1) from foldL_snoc (stepC n x.val) (outF n b (vals pre)) pre' y)
      generalize innF n x.val (outF n b (vals pre)) (vals pre') = ls at *
      have hI3 : IsInts W' w.heap.size (.slice (some ⟨w.heap.size + 1 + 1, 0, none⟩) ls.length n) ls := by rw [hlen]; exact hI2
      obtain ⟨z, hz⟩ : ∃ z, ls.getD ((x.val + y.val) % n) 0 = z := ⟨_, rfl⟩
      rw [hz] at hz0 hz1
      have HI3 := Lib.hid hI3
      have HLen := Lib.hid hlen
      have HZ := Lib.hid hz
      have HRS := Lib.hid hrs
      generalize hidx : (x.val + y.val) % n = idx at *
      have HIdx := Lib.hid hidx
      have j1 : (0 : Int) ≤ (idx : Int) := by omega
      have j2 : (idx : Int) < (n : Int) := by omega
      have hTlt : w.heap.size + 1 + 1 < W'.heap.size := (World.ownsRow.lt hI3 _ rfl).2
      have hsW' : w.heap.size ≤ W'.heap.size := by omega
      obtain ⟨oT, hoT, hcT⟩ : ∃ o : Obj, W'.heap[w.heap.size + 1 + 1]? = some o ∧ o.isCells = true := by
        rcases hI3.2 with ⟨h, _⟩ | ⟨g, cap, cur, h, _, hg, _⟩
        · simp at h
        · simp only [Value.slice.injEq, Option.some.injEq, Addr.mk.injEq, and_true, true_and] at h
          obtain ⟨rfl, _⟩ := h
          exact ⟨_, hg, rfl⟩
      rw [hrs] at Hrest
      clear hI2 hI3 hlen hz hrs hidx
      have E := IntWalk.i64_in ((x.val : Int) + (y.val : Int)) ⟨by omega, by omega⟩
      have E2 := IntWalk.i64_in (z + 1) ⟨by omega, by omega⟩
      gi_wp2
      have hA0 := Aside.start (w.heap.size + 1 + 1) W'
      refine region_round (fun W2 => Aside (w.heap.size + 1 + 1) W' W2) hmx (by kernel_rfl) (fun ⟨_, _, h⟩ => h) hA0 (fun _ => ?_)
      refine take1 0 (v := ?_) rfl (by kernel_rfl) (by kernel_rfl) (by kernel_rfl) (fun _ _ _ h => h) (by rfl) ?_ hA0 ?_
      rotate_left
      · intro W2 hA
        have c0 := (hA.box bW2 (by omega)).cell
        have c1 := (hA.box bR2 (by omega)).cell
        have c2 := (hA.box bX2 (by omega)).cell
        clear hA
        go_simp
        try with_reducible rfl
      try simp only [Act.put, List.setIfInBounds_toArray, List.set_cons_zero, List.set_cons_succ]
      refine take1 1 (v := ?_) rfl (by kernel_rfl) (by kernel_rfl) (by kernel_rfl) (fun _ _ _ h => h) (by rfl) ?_ hA0 ?_
      rotate_left
      · intro W2 hA
        have c0 := (hA.box bW2 (by omega)).cell
        have c1 := (hA.box bR2 (by omega)).cell
        have c2 := (hA.box bX2 (by omega)).cell
        clear hA
        go_simp
        try with_reducible rfl
      try simp only [Act.put, List.setIfInBounds_toArray, List.set_cons_zero, List.set_cons_succ]
      refine take1 2 (v := ?_) rfl (by kernel_rfl) (by kernel_rfl) (by kernel_rfl) (fun _ _ _ h => h) (by rfl) ?_ hA0 ?_
      rotate_left
      · intro W2 hA
        have c0 := (hA.box bW2 (by omega)).cell
        have c1 := (hA.box bR2 (by omega)).cell
        have c2 := (hA.box bX2 (by omega)).cell
        clear hA
        go_simp
        try with_reducible rfl
      try simp only [Act.put, List.setIfInBounds_toArray, List.set_cons_zero, List.set_cons_succ]
      refine take1 3 (v := ?_) rfl (by kernel_rfl) (by kernel_rfl) (by kernel_rfl) (fun _ _ _ h => h) (by rfl) ?_ hA0 ?_
      rotate_left
      · intro W2 hA
        have c0 := (hA.box bW2 (by omega)).cell
        have c1 := (hA.box bR2 (by omega)).cell
        have c2 := (hA.box bX2 (by omega)).cell
        clear hA
        go_simp
        try with_reducible rfl
      try simp only [Act.put, List.setIfInBounds_toArray, List.set_cons_zero, List.set_cons_succ]
      refine take1 4 (v := ?_) rfl (by kernel_rfl) (by kernel_rfl) (by kernel_rfl) (fun _ _ _ h => h) (by rfl) ?_ hA0 ?_
      rotate_left
      · intro W2 hA
        have c0 := (hA.box bW2 (by omega)).cell
        have c1 := (hA.box bR2 (by omega)).cell
        have c2 := (hA.box bX2 (by omega)).cell
        clear hA
        go_simp
        try with_reducible rfl
      try simp only [Act.put, List.setIfInBounds_toArray, List.set_cons_zero, List.set_cons_succ]
      refine step1 5 (by kernel_rfl) rfl (fun K hK => ?_)
      go_simp
      with_reducible refine (Hrest.out _).mono ?_
      rintro e W1' ⟨rfl, hb1⟩
      go_wp2_with fail
      have hA1 := hA0.call hb1
      have hI4 : IsInts W1' w.heap.size (.slice (some ⟨w.heap.size + 1 + 1, 0, none⟩) ls.length n) ls := HI3.out.below (W := W'.drew) (fun g hg => by simp only [Value.ownBlock, Option.some.injEq] at hg; subst hg; exact hTlt) hb1
      have c9 := hI4.cell (i := idx) (by rw [HLen.out]; omega)
      have f9 := hI4.frozen idx
      have HI4 := Lib.hid hI4
      rw [HZ.out] at c9
      clear hI4
      refine hK.out _ _ hA1 ?_
      clear hK K
      try simp only [Act.put, List.setIfInBounds_toArray, List.set_cons_zero, List.set_cons_succ]
      refine take1 6 (v := ?_) rfl (by kernel_rfl) (by kernel_rfl) (by kernel_rfl) (fun _ _ _ h => h) (by rfl) ?_ hA1 ?_
      rotate_left
      · intro W2 hA
        have c0 := (hA.box bW2 (by omega)).cell
        have c1 := (hA.box bR2 (by omega)).cell
        have c2 := (hA.box bX2 (by omega)).cell
        clear hA
        go_simp
        try with_reducible rfl
      try simp only [Act.put, List.setIfInBounds_toArray, List.set_cons_zero, List.set_cons_succ]
      refine step1 7 (by kernel_rfl) rfl (fun K hK => ?_)
      go_simp
      refine hK.out _ _ hA1 ?_
      clear hK K
      try simp only [Act.put, List.setIfInBounds_toArray, List.set_cons_zero, List.set_cons_succ]
      refine take1 8 (v := ?_) rfl (by kernel_rfl) (by kernel_rfl) (by kernel_rfl) (fun _ _ _ h => h) (by rfl) ?_ hA1 ?_
      rotate_left
      · intro W2 hA
        have c0 := (hA.box bW2 (by omega)).cell
        have c1 := (hA.box bR2 (by omega)).cell
        have c2 := (hA.box bX2 (by omega)).cell
        clear hA
        go_simp
        try with_reducible rfl
      try simp only [Act.put, List.setIfInBounds_toArray, List.set_cons_zero, List.set_cons_succ]
      refine take1 9 (v := ?_) rfl (by kernel_rfl) (by kernel_rfl) (by kernel_rfl) (fun _ _ _ h => h) (by rfl) ?_ hA1 ?_
      rotate_left
      · intro W2 hA
        have c0 := (hA.box bW2 (by omega)).cell
        have c1 := (hA.box bR2 (by omega)).cell
        have c2 := (hA.box bX2 (by omega)).cell
        clear hA
        go_simp
        try with_reducible rfl
      try simp only [Act.put, List.setIfInBounds_toArray, List.set_cons_zero, List.set_cons_succ]
      refine step1 10 (by kernel_rfl) rfl (fun K hK => ?_)
      go_simp
      refine hK.out _ _ (hA1.setAt _ _) ?_
      clear hK K
      try simp only [Act.put, List.setIfInBounds_toArray, List.set_cons_zero, List.set_cons_succ]
      refine stop1 (by kernel_rfl) ?_
      gi_wp2
      have h3 := HI4.out.set idx (z + 1)
      rw [List.length_set, HLen.out] at h3
      have hA2 := hA1.setAt idx (.int .i64 (z + 1))
      have hKo := hA2.others' hoT hcT
      exact ⟨hKo.from _, hA2.kb (by omega) (by omega) hsW', ⟨⟨⟨⟨hA2.box bR2 (by omega), hA2.box bB2 (by omega)⟩, hA2.box bW2 (by omega)⟩, hA2.box bX2 (by omega)⟩, by rw [HS.out, HZ.out]; exact h3⟩, hKB.trans (hA2.kb (by omega) (by omega) hsW'), hKF.trans (hKo.from _)⟩
    case done2 =>
      rintro ys' W' rfl ⟨⟨⟨⟨⟨bR2, bB2⟩, bW2⟩, bX2⟩, hI2⟩, hKB, hKF⟩
      have e : innF n x.val (outF n b (vals pre)) (vals (comeTo n b n)) = outF n b (vals (pre ++ [x])) := (foldL_come _ _ n b).trans (foldL_snoc (fun v xs => rowC n b v n xs) (List.replicate n 0) pre x).symm
      rw [e] at hI2
      have HI2 := Lib.hid hI2
      clear hI2 e
      gi_wp2
      exact ⟨hKF, hKB, ⟨⟨⟨bR2, bB2⟩, bW2⟩, HI2.out⟩, hB1.trans hKB.below⟩
    case stop2 =>
      rintro c pre' W' _ h
      exact h.elim
  case done =>
    rintro D ys W hD rfl ⟨⟨⟨_, bW1⟩, hI⟩, hB⟩ hK
    have cW := bW1.cell
    gi_wp2
    refine ⟨by simp, .inl ⟨_, _, rfl, run_takeDeferred hK, ?_⟩⟩
    have hD' := belowK_b (w := w) (Nat.le_refl _) W D _ (.deferred none) (by omega) hK rfl rfl
    refine ⟨_, results_tmp rfl _ _ _, rfl, hB.trans hD', ?_⟩
    have h3 := ints_own w.heap.size (.slice (some ⟨w.heap.size + 1 + 1, 0, none⟩) n n) (fun (_ : Unit) => outF n b (vals (comeTo n a n))) () W _ _ hI (grownBy_putObj' W D (.deferred none)) (fun r e => by cases e; exact ⟨_, hK, rfl⟩)
    have e : outF n b (vals (comeTo n a n)) = countsN n a b n := foldL_come _ _ n a
    rw [e] at h3
    exact h3
  case stop =>
    rintro D c pre W _ _ h _
    exact h.elim
end Go.Proofs.Ytaklmepioeoohaa
