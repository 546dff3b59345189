/- The divisor of steps, and the places to which ways lead from 0: the program. -/
import Derived.Test.YtgadlhcgaeilcaaStepB
import Derived.Test.YtgadlhcgaeilcaaHeld
namespace Go.Proofs.Ytgadlhcgaeilcaa
open Go.RowKit Go.Shelf
set_option linter.unusedVariables false
attribute [local go_sem] Oper.semAt_some
/-- Block B has two cells of type t, which hold u and v. -/
def Duo (W : World) (B : Nat) (t : TypeId) (u v : Value) : Prop := W.heap[B]? = some (.cells #[u, v] t (0, 0))
theorem Duo.lt {W : World} {B : Nat} {t : TypeId} {u v : Value} (h : Duo W B t u v) : B < W.heap.size := (Array.getElem?_eq_some_iff.1 h).1
theorem Duo.cell0 {W : World} {B : Nat} {t : TypeId} {u v : Value} (h : Duo W B t u v) : W.cell? ⟨B, 0, none⟩ = some u := by simp [World.cell?, show W.heap[B]? = _ from h]
theorem Duo.cell1 {W : World} {B : Nat} {t : TypeId} {u v : Value} (h : Duo W B t u v) : W.cell? ⟨B, 1, none⟩ = some v := by simp [World.cell?, show W.heap[B]? = _ from h]
theorem Duo.new (W : World) (t : TypeId) (u v : Value) : Duo (W.alloc (.cells #[u, v] t)) W.heap.size t u v := World.alloc_heap_new W _
theorem Duo.kept {W W' : World} {row : Option Nat} {B : Nat} {t : TypeId} {u v : Value} (h : Duo W B t u v) (hg : W.grownBy W' row) (hne : some B ≠ row) : Duo W' B t u v := (hg.block B h.lt hne).trans h
theorem Duo.alloc {W : World} {B : Nat} {t : TypeId} {u v : Value} (h : Duo W B t u v) (o : Obj) : Duo (W.alloc o) B t u v := h.kept (World.grownBy_alloc W o none) (by simp)
theorem Duo.other {W : World} {B B' : Nat} {t : TypeId} {u v : Value} (h : Duo W B t u v) (hne : B ≠ B') (x : Value) : Duo (W.setCell ⟨B', 0, none⟩ x) B t u v := h.kept (grownBy_setCell' W B' x) (fun e => hne (by cases e; rfl))
theorem duo_own {β : Type} (B : Nat) (t : TypeId) (f g : β → Value) : Own (fun s W => Duo W B t (f s) (g s)) := fun s X Y row hs hg hrow =>
  hs.kept hg (fun e' => by obtain ⟨o, ho, hc⟩ := hrow B e'.symm; rw [show X.heap[B]? = _ from hs] at ho; cases ho; cases hc)
theorem duo_below {W W' : World} {B : Nat} {t : TypeId} {u v : Value} (h : Duo W B t u v) {N : Nat} (hN : B < N) (hb : Below N W W') : Duo W' B t u v := (hb.block B hN).trans h
theorem Aside.duo {T : Nat} {W W' : World} (h : Aside T W W') {B : Nat} {t : TypeId} {u v : Value} (hB : Duo W B t u v) (hn : B ≠ T) : Duo W' B t u v := (h.block B hB.lt hn).trans hB
theorem partsS_lt (n v x : Nat) (h2 : n ≤ 12) (hv : v < n) (hx : x < 13) : partsS v x < 13 := by
  unfold partsS
  by_cases h : x = 0
  · subst h
    rw [Nat.gcd_zero_left]
    omega
  · have := Nat.le_of_dvd (by omega) (Nat.gcd_dvd_left x v)
    omega
set_option maxRecDepth 100000 in
set_option maxHeartbeats 4000000 in
theorem parts_any (n s : Nat) (w : World) (h1 : 1 ≤ n) (h2 : n ≤ 12) (hs : s < 2 ^ n) :
    Calls Try.prog 50 #[.agg #[.int .i64 (n:Int), .int .i64 (s:Int)]] w fun e w' => e = .returned (.int .i64 ((partsN n s : Nat) : Int)) ∧ Below w.heap.size w w' := by
  refine (callsIn_wide (n := 9)).1 ?_
  refine callsIn_of_wp_marks Try.func50 rfl trivial ?_ rfl
  simp only [Try.ntmps50, List.size_toArray, List.length_cons, List.length_nil, Nat.reduceAdd, Nat.reduceSub, Array.replicate_succ, Array.replicate_zero, List.push_toArray, List.append_toArray, List.nil_append, List.cons_append]
  gi_wp2_with (refine ⟨trivial, ?_⟩; gi_at_call 68; refine (callsIn_wide.2 (places_any _ _)).mono ?_; rintro e w' ⟨rfl, rfl⟩)
  have bR := ((Duo.new w 37 (.int .i64 (n:Int)) (.int .i64 (s:Int))).alloc (.cells #[.int .i64 (n:Int)] 3)).alloc (.cells #[.int .i64 (s:Int)] 35)
  have bT := (Boxed.new (w.alloc (.cells #[.int .i64 (n:Int), .int .i64 (s:Int)] 37)) 3 (.int .i64 (n:Int))).alloc (.cells #[.int .i64 (s:Int)] 35)
  have bP := Boxed.new ((w.alloc (.cells #[.int .i64 (n:Int), .int .i64 (s:Int)] 37)).alloc (.cells #[.int .i64 (n:Int)] 3)) 35 (.int .i64 (s:Int))
  simp only [World.size_alloc] at bT bP
  have hB0 : Below w.heap.size w (((w.alloc (.cells #[.int .i64 (n:Int), .int .i64 (s:Int)] 37)).alloc (.cells #[.int .i64 (n:Int)] 3)).alloc (.cells #[.int .i64 (s:Int)] 35)) :=
    (((Below.refl _ w).alloc (Nat.le_refl _) _).alloc (by simp) _).alloc (by simp; omega) _
  have hsz : (((w.alloc (.cells #[.int .i64 (n:Int), .int .i64 (s:Int)] 37)).alloc (.cells #[.int .i64 (n:Int)] 3)).alloc (.cells #[.int .i64 (s:Int)] 35)).heap.size = w.heap.size + 3 := by simp
  obtain ⟨W0, hW0⟩ : ∃ W0, (((w.alloc (.cells #[.int .i64 (n:Int), .int .i64 (s:Int)] 37)).alloc (.cells #[.int .i64 (n:Int)] 3)).alloc (.cells #[.int .i64 (s:Int)] 35)) = W0 := ⟨_, rfl⟩
  rw [hW0] at bR bT bP hB0 hsz ⊢
  clear hW0
  refine wpIn_rangeFunc_ownF rfl (by omega) (gf := 76) (lb := #[.pointer (some ⟨w.heap.size + 1 + 1, 0, none⟩)]) rfl trivial (enters_of Try.func76 (by kernel_rfl) rfl)
    (places_stops 8 (by omega) (w.heap.size + 1 + 1) w.heap.size n s hs h2 W0 bP) KB.trans (KB.put (by omega)) (Below.refl _ _) (fun _ => rfl)
    (fun pre W => (Duo W w.heap.size 37 (.int .i64 (n:Int)) (.int .i64 (s:Int)) ∧ Boxed W (w.heap.size + 1) 3 (.int .i64 ((fold partsS n (vals pre) : Nat) : Int))) ∧ Below w.heap.size w W)
    (fun _ _ _ => False)
    (OwnFrom.and (OwnFrom.and (Own.from (duo_own _ _ _ _) _) (Own.from (boxed_own _ _ _) _)) (ownFrom_below (Nat.le_refl _) (by omega)))
    (fun _ _ _ _ _ hs _ _ => hs)
    ⟨⟨bR, bT⟩, hB0⟩
    (fun x => { tmps := #[.agg #[.int .i64 (n:Int), .int .i64 (s:Int)], .pointer (some ⟨w.heap.size, 0, none⟩), .int .i64 0, .pointer (some ⟨w.heap.size + 1, 0, none⟩), .int .i64 (x.val : Int), .pointer (some ⟨w.heap.size, 0, none⟩), .pointer (some ⟨w.heap.size, 0, none⟩), .int .i64 (n:Int), .pointer (some ⟨w.heap.size, 1, none⟩), .int .i64 (s:Int), .func (.func 76) #[] #[.pointer (some ⟨w.heap.size + 1 + 1, 0, none⟩)], .int .i64 (x.val : Int), undef, undef, undef, undef], defers := [] }) ?assign ?body ?done ?stop
  case assign =>
    intro l x W K hK
    gi_wp2
    exact hK
  case body =>
    rintro l pre x W ⟨⟨bR1, bT1⟩, hB1⟩ _
    have cT := bT1.cell
    have fT := bT1.frozen
    have hx := x.isLt
    have ho := fold_lt partsS n 13 n (by omega) (fun v x hv hx => partsS_lt n v x h2 hv hx) pre
    have hsW := hB1.size
    have lR := bR1.lt
    have lT := bT1.lt
    have HS := Lib.hid (fold_snoc partsS n pre x)
    have Hgcd := Lib.hid (fun W => gcd_any (fold partsS n (vals pre)) x.val W (by omega) (by omega))
    gi_wp2_with (refine ⟨trivial, ?_⟩; gi_at_call 72; refine (CallsIn.inRound l (callsIn_wide.2 (Hgcd.out _))).mono ?_; rintro e W2 ⟨rfl, hb2⟩; have bT2 := boxed_below bT1 lT hb2; have cT2 := bT2.cell; have fT2 := bT2.frozen)
    exact ⟨(others_below hb2).trans (KeepsOthers.setCell _ _ _),
      (KB.call (KB.refl _ _ W) hsW hb2).setCell (p := w.heap.size + 1) (by omega) (by omega) _,
      ⟨(duo_below bR1 lR hb2).other (by omega) _, by rw [HS.out]; exact bT2.set _⟩,
      (hB1.trans (hb2.mono hsW)).setCell (p := ⟨w.heap.size + 1, 0, none⟩) (by simp) _⟩
  case done =>
    rintro D ys W hD rfl ⟨⟨_, bT1⟩, hB⟩ hK
    have cT := bT1.cell
    rw [fold_come] at cT
    gi_wp2
    refine ⟨by simp, .inl ⟨_, _, rfl, run_takeDeferred hK, ?_⟩⟩
    exact ⟨_, results_tmp rfl _ _ _, rfl, hB.trans (belowK_b (w := w) (Nat.le_refl _) W D _ _ (by omega) hK rfl rfl)⟩
  case stop =>
    rintro D c pre W _ _ h _
    exact h.elim
/-- The multiples of g below n. -/
def multS (g j x : Nat) : Nat := x ||| 2 ^ (j * g)
def multN (n g : Nat) : Nat := upto (multS g) (n / g) 0
def partN (n s : Nat) : Nat := multN n (partsN n s)
theorem parts_dvd_n (n s j : Nat) : overSet s partsS j n ∣ n := by
  induction j with
  | zero => exact Nat.dvd_refl _
  | succ j ih =>
    rw [over_step]
    split
    · exact Nat.dvd_trans (Nat.gcd_dvd_left _ _) ih
    · exact ih
theorem mult_lt (n g q j : Nat) (hq : q * g = n) (hg : 1 ≤ g) (hj : j ≤ q) : upto (multS g) j 0 < 2 ^ n := by
  refine upto_lt (multS g) n j 0 (Nat.two_pow_pos n) (fun v x hv hx => ?_)
  refine or_pow_lt n x (v * g) hx ?_
  have : v * g < q * g := Nat.mul_lt_mul_of_pos_right (by omega) hg
  omega
theorem part_any (n s : Nat) (w : World) (h1 : 1 ≤ n) (h2 : n ≤ 12) (hs : s < 2 ^ n) :
    Calls Try.prog 56 #[.agg #[.int .i64 (n:Int), .int .i64 (s:Int)]] w fun e w' => e = .returned (.int .i64 ((partN n s : Nat) : Int)) ∧ Below w.heap.size w w' := by
  have hp := pow_le n h2
  obtain ⟨hg1, hg2⟩ := partsN_pos n s h1
  obtain ⟨q, hq⟩ := parts_dvd_n n s n
  have hq' : q * partsN n s = n := by rw [Nat.mul_comm]; exact hq.symm
  have hPN : Hid (partN n s = upto (multS (partsN n s)) q 0) := Lib.hid (by
    unfold partN multN
    rw [show n / partsN n s = q from by
      have h : q * partsN n s / partsN n s = q := Nat.mul_div_cancel q hg1
      rw [hq'] at h
      exact h])
  have HS := Lib.hid (fun W => parts_any n s W h1 h2 hs)
  clear hq
  generalize partsN n s = g at *
  go_enter Try.func56, Try.ntmps56
  go_wp2_with (go_at_call 50; refine (HS.out _).mono ?_; rintro e w1 ⟨rfl, hb⟩)
  have hc : w1.cell? ⟨w.heap.size, 0, none⟩ = some (.int .i64 (n:Int)) := (hb.cell (p := ⟨w.heap.size, 0, none⟩) (by simp)).trans (by simp)
  have hB : Below w.heap.size w w1 := ((Below.refl _ _).alloc (Nat.le_refl _) _).trans (hb.mono (by simp))
  clear hb
  go_loop [3, 5] (fun u v => ∃ j : Nat, j ≤ q ∧ u = .int .i64 ((upto (multS g) j 0 : Nat) : Int) ∧ v = .int .i64 ((j * g : Nat) : Int)) (fun _ v => n - (intOf v).toNat)
  case atStart => exact ⟨0, Nat.zero_le _, rfl, by simp⟩
  case round =>
    obtain ⟨j, hj, rfl, rfl⟩ := hrel
    have hm := mult_lt n g q j hq' hg1 hj
    by_cases hlt : j * g < n
    · have hjq : j < q := by
        rw [← hq'] at hlt
        exact Nat.lt_of_mul_lt_mul_right hlt
      have HW := Lib.hid (with_any (upto (multS g) j 0) (j * g) w1 (by omega) (by omega))
      have HN : Hid ((j + 1) * g = j * g + g) := Lib.hid (Nat.succ_mul j g)
      have HU := Lib.hid (show upto (multS g) (j + 1) 0 = upto (multS g) j 0 ||| 2 ^ (j * g) from rfl)
      have hlt' : ((j * g : Nat) : Int) < (n : Int) := by omega
      generalize hz : j * g = z at *
      go_wp2_with (go_at_call 69; refine HW.out.mono ?_; rintro e w' ⟨rfl, rfl⟩)
      go_round
      case rel => exact ⟨j + 1, by omega, by rw [HU.out], by rw [HN.out]; go_num⟩
      case measure => simp [intOf]; omega
    · have e : j = q := by
        rw [← hq'] at hlt
        have := Nat.le_of_mul_le_mul_right (Nat.le_of_not_lt hlt) hg1
        omega
      subst e
      have hlt' : ¬ ((j * g : Nat) : Int) < (n : Int) := by omega
      generalize j * g = z at *
      go_wp2
      go_ret
      exact ⟨ret_int (by rw [hPN.out]), hB⟩
end Go.Proofs.Ytgadlhcgaeilcaa
