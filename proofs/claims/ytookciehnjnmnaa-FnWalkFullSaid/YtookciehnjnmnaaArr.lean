/- Arrays of twelve numbers: by value, and in a block. -/
import Derived.Test.YtookciehnjnmnaaWalkA
import Derived.Test.YtookciehnjnmnaaGC
import Derived.Test.YtookciehnjnmnaaGD
import Derived.ChangeKeysEq
import Derived.Deep.WholeRow
import Derived.Laws.ResultCell
namespace Go.Proofs.Ytookciehnjnmnaa
open Go.RowKit Go.Shelf
set_option linter.unusedVariables false
/-- The cells of an array of the numbers that f tells. -/
def arrC (f : Nat → Nat) : Array Value := #[.int .i64 ((f 0 : Nat) : Int), .int .i64 ((f 1 : Nat) : Int), .int .i64 ((f 2 : Nat) : Int), .int .i64 ((f 3 : Nat) : Int), .int .i64 ((f 4 : Nat) : Int), .int .i64 ((f 5 : Nat) : Int), .int .i64 ((f 6 : Nat) : Int), .int .i64 ((f 7 : Nat) : Int), .int .i64 ((f 8 : Nat) : Int), .int .i64 ((f 9 : Nat) : Int), .int .i64 ((f 10 : Nat) : Int), .int .i64 ((f 11 : Nat) : Int)]
theorem below12 {i : Nat} (h : i < 12) : i = 0 ∨ i = 1 ∨ i = 2 ∨ i = 3 ∨ i = 4 ∨ i = 5 ∨ i = 6 ∨ i = 7 ∨ i = 8 ∨ i = 9 ∨ i = 10 ∨ i = 11 := by omega
theorem arr_size (f : Nat → Nat) : (arrC f).size = 12 := rfl
theorem arr_get (f : Nat → Nat) (i : Nat) (h : i < 12) : (arrC f)[i]? = some (.int .i64 ((f i : Nat) : Int)) := by
  rcases below12 h with rfl | rfl | rfl | rfl | rfl | rfl | rfl | rfl | rfl | rfl | rfl | rfl <;> rfl
theorem arr_congr (f g : Nat → Nat) (h : ∀ x, x < 12 → f x = g x) : arrC f = arrC g := by
  unfold arrC
  rw [h 0 (by omega), h 1 (by omega), h 2 (by omega), h 3 (by omega), h 4 (by omega), h 5 (by omega), h 6 (by omega), h 7 (by omega), h 8 (by omega), h 9 (by omega), h 10 (by omega), h 11 (by omega)]
theorem arr_set (f : Nat → Nat) (i z : Nat) (h : i < 12) : (arrC f).setIfInBounds i (.int .i64 ((z : Nat) : Int)) = arrC (fun x => if x = i then z else f x) := by
  rcases below12 h with rfl | rfl | rfl | rfl | rfl | rfl | rfl | rfl | rfl | rfl | rfl | rfl <;> rfl
theorem arr_one (f : Nat → Nat) : (arrC f).all (·.oneCell') = true := by simp [arrC, Value.oneCell']
/-- An array in a block of its own. -/
def Arr (W : World) (B : Nat) (t : TypeId) (f : Nat → Nat) : Prop := W.heap[B]? = some (.cells (arrC f) t (0, 0))
theorem Arr.lt {W : World} {B : Nat} {t : TypeId} {f : Nat → Nat} (h : Arr W B t f) : B < W.heap.size := (Array.getElem?_eq_some_iff.1 h).1
theorem Arr.cell {W : World} {B : Nat} {t : TypeId} {f : Nat → Nat} (h : Arr W B t f) (i : Nat) (hi : i < 12) : W.cell? ⟨B, i, none⟩ = some (.int .i64 ((f i : Nat) : Int)) := by simp [World.cell?, show W.heap[B]? = _ from h, arr_get f i hi]
theorem Arr.frozen {W : World} {B : Nat} {t : TypeId} {f : Nat → Nat} (h : Arr W B t f) (i : Nat) : W.frozen? ⟨B, i, none⟩ = false := by simp [World.frozen?, show W.heap[B]? = _ from h]
theorem Arr.new (W : World) (t : TypeId) (f : Nat → Nat) : Arr (W.alloc (.cells (arrC f) t)) W.heap.size t f := World.alloc_heap_new W _
theorem Arr.kept {W W' : World} {row : Option Nat} {B : Nat} {t : TypeId} {f : Nat → Nat} (h : Arr W B t f) (hg : W.grownBy W' row) (hne : some B ≠ row) : Arr W' B t f := (hg.block B h.lt hne).trans h
theorem Arr.same {W W' : World} {B : Nat} {t : TypeId} {f : Nat → Nat} (h : Arr W B t f) (e : W'.heap[B]? = W.heap[B]?) : Arr W' B t f := e.trans h
theorem Arr.alloc {W : World} {B : Nat} {t : TypeId} {f : Nat → Nat} (h : Arr W B t f) (o : Obj) : Arr (W.alloc o) B t f := h.kept (World.grownBy_alloc W o none) (by simp)
theorem Arr.other {W : World} {B : Nat} {t : TypeId} {f : Nat → Nat} (h : Arr W B t f) (a : Addr) (hne : B ≠ a.block) (x : Value) : Arr (W.setCell a x) B t f := h.same (Below.heap_setCell W a x B hne)
theorem Arr.set {W : World} {B : Nat} {t : TypeId} {f : Nat → Nat} (h : Arr W B t f) (i z : Nat) (hi : i < 12) : Arr (W.setCell ⟨B, i, none⟩ (.int .i64 ((z : Nat) : Int))) B t (fun x => if x = i then z else f x) := by
  show (W.setCell ⟨B, i, none⟩ _).heap[B]? = _
  rw [← arr_set f i z hi]
  simp [World.setCell, Array.getElem?_modify, show W.heap[B]? = _ from h]
theorem Arr.below {W W' : World} {B : Nat} {t : TypeId} {f : Nat → Nat} (h : Arr W B t f) {N : Nat} (hN : B < N) (hb : Below N W W') : Arr W' B t f := (hb.block B hN).trans h
theorem Arr.congr {W : World} {B : Nat} {t : TypeId} {f g : Nat → Nat} (h : Arr W B t f) (e : ∀ x, x < 12 → f x = g x) : Arr W B t g := by
  have h' : W.heap[B]? = some (.cells (arrC f) t (0, 0)) := h
  show W.heap[B]? = _
  rw [h', arr_congr f g e]
theorem Arr.obj {W : World} {B : Nat} {t : TypeId} {f : Nat → Nat} (h : Arr W B t f) : ∃ o : Obj, W.heap[B]? = some o ∧ o.isCells = true := ⟨_, h, rfl⟩
theorem arr_own {β : Type} (B : Nat) (t : TypeId) (f : β → Nat → Nat) : Own (fun s W => Arr W B t (f s)) := fun s X Y row hs hg hrow =>
  hs.kept hg (fun e => by
    obtain ⟨o, ho, hc⟩ := hrow B e.symm
    have hs' : X.heap[B]? = some (.cells (arrC (f s)) t (0, 0)) := hs
    rw [hs'] at ho; cases ho; simp [Obj.isCells] at hc)
theorem Aside.arr {T : Nat} {W W' : World} (h : Aside T W W') {B : Nat} {t : TypeId} {f : Nat → Nat} (hB : Arr W B t f) (hn : B ≠ T) : Arr W' B t f := (h.block B hB.lt hn).trans hB
theorem Arr.loads {P : Program} {W : World} {B : Nat} {t : TypeId} {f : Nat → Nat} (h : Arr W B t f) : (loadCellsFrom ⟨B, 0, none⟩ 0 12 #[]).run P W = .ok (arrC f) W := by
  have := run_loadCells_list (P := P) W ⟨B, 0, none⟩ (arrC f).toList (fun j v hv => by
    have hadd : (⟨B, 0, none⟩ : Addr).add j = ⟨B, j, none⟩ := by unfold Addr.add; split <;> simp_all
    rw [hadd]
    have hj : j < 12 := by
      have := (List.getElem?_eq_some_iff.1 hv).1
      simpa [arr_size] using this
    rw [h.cell j hj, ← arr_get f j hj]
    simpa using hv)
  simpa [loadCells, arr_size] using this
theorem Arr.stores {P : Program} {W : World} {B : Nat} {t : TypeId} {f : Nat → Nat} (h : Arr W B t f) (g : Nat → Nat) : (storeCells ⟨B, 0, none⟩ (arrC g).toList 0).run P W = .ok () (W.setRow B (arrC g)) := by
  have := run_storeCells_from (P := P) B t (arrC g).toList 0 (arrC f) W h (by simp [arr_size]) (fun v hv => (Array.all_eq_true_iff_forall_mem.1 (arr_one g)) v (by simpa using hv))
  simpa using this
theorem Arr.row {W : World} {B : Nat} {t : TypeId} {f : Nat → Nat} (h : Arr W B t f) (g : Nat → Nat) : Arr (W.setRow B (arrC g)) B t g := setRow_heap W B _ _ t _ h
theorem row_below {W W' : World} {B N : Nat} (h : Below N W W') (hB : N ≤ B) (g : Nat → Nat) : Below N W (W'.setRow B (arrC g)) :=
  ⟨h.os, h.tape, h.output, by simpa [World.setRow] using h.size, fun k hk => (setRow_other W' B k _ (by omega)).trans (h.block k hk)⟩
theorem Try.walksInfo : (Try.prog.info? 58).map (·.size) = some 12 := by kernel_rfl
theorem Try.walksUnder : Try.prog.underlying 58 = some (.array 12 3) := by kernel_rfl
theorem Arr.loadVar {W : World} {B : Nat} {t : TypeId} {f : Nat → Nat} (h : Arr W B t f) : (loadVar 58 ⟨B, 0, none⟩).run Try.prog W = .ok (.agg (arrC f)) W :=
  run_loadVar_row W B t 58 (arrC f) (0, 0) _ h Try.walksUnder rfl Try.walksInfo
theorem results_cell1 {fn : Func} {p : Tmp} {ty : TypeId} (h : fn.results = #[.cell p ty]) (tmps : Array Value) (P : Program) (w : World) :
    (results fn tmps).run P w = ((asAddr (tmps.getD p undef)).run P w).andThen fun a w₁ => (loadVar ty a).run P w₁ := by
  simp only [results, h]
  simp [Sem.run_bind, Result.andThen]
theorem run_loadArr {W : World} {B : Nat} {t : TypeId} {f : Nat → Nat} (h : Arr W B t f) : (Instr.loadAt 58 (.pointer (some ⟨B, 0, none⟩))).run Try.prog W = .ok (.agg (arrC f)) W := by
  simp only [Instr.loadAt, Instr.sureAddr, Sem.run_bind, Sem.run_pure, Result.andThen]
  exact run_loadVar_row W B t 58 (arrC f) (0, 0) _ h Try.walksUnder rfl Try.walksInfo
theorem run_storeArr {W : World} {B : Nat} {t : TypeId} {f : Nat → Nat} (h : Arr W B t f) (g : Nat → Nat) : (Instr.storeAt 58 (.pointer (some ⟨B, 0, none⟩)) (.agg (arrC g))).run Try.prog W = .ok () (W.setRow B (arrC g)) := by
  simp only [Instr.storeAt, Instr.sureAddr, Sem.run_bind, Sem.run_pure, Result.andThen]
  exact run_storeVar_row W B t 58 (arrC f) (arrC g) h Try.walksInfo rfl (arr_one g)
section
variable (w : World) {ops : Array Oper} {rest : List Oper} {o : Oper} {a : Act} {Q : Exit → Act → World → Prop}
theorem wpList_loadArr (hg : o.guard = none) (x : Operand) (hop : o.op = Op.load 58 x) (B : Nat) (t : TypeId) (f : Nat → Nat) (hx : a.eval x = .pointer (some ⟨B, 0, none⟩)) (h : Arr w B t f)
    (hK : wpList Try.prog ops Q rest (a.put o.dst (.agg (arrC f))) w) : wpList Try.prog ops Q (o :: rest) a w := by
  refine wpList_plain hg fun K hK' => ?_
  have hrun := run_loadArr h
  unfold Oper.wp
  simp only [execOp, hop, hx, Sem.run_bind, hrun, Result.andThen]
  exact hK' _ _ hK
theorem wpList_storeArr (hg : o.guard = none) (x y : Operand) (hop : o.op = Op.store 58 x y) (B : Nat) (t : TypeId) (f g : Nat → Nat) (hx : a.eval x = .pointer (some ⟨B, 0, none⟩)) (hy : a.eval y = .agg (arrC g)) (h : Arr w B t f)
    (hK : wpList Try.prog ops Q rest (a.put o.dst undef) (w.setRow B (arrC g))) : wpList Try.prog ops Q (o :: rest) a w := by
  refine wpList_plain hg fun K hK' => ?_
  have hrun := run_storeArr h g
  unfold Oper.wp
  simp only [execOp, hop, hx, hy, Sem.run_bind, hrun, Result.andThen]
  exact hK' _ _ hK
theorem wpListIn_loadArr {F : Fence} {nF : Nat} (hg : o.guard = none) (x : Operand) (hop : o.op = Op.load 58 x) (B : Nat) (t : TypeId) (f : Nat → Nat) (hx : a.eval x = .pointer (some ⟨B, 0, none⟩)) (h : Arr w B t f)
    (hK : wpListIn F nF Try.prog ops Q rest (a.put o.dst (.agg (arrC f))) w) : wpListIn F nF Try.prog ops Q (o :: rest) a w := by
  refine wpListIn_plain hg fun K hK' => ?_
  have hrun := run_loadArr h
  unfold Oper.wpIn
  refine ⟨by simp [Oper.about, hop], ?_⟩
  rw [Oper.semAt_plain F _ _ (by rw [hop]; intro c hc'; cases hc')]
  simp only [execOp, hop, hx, Sem.run_bind, hrun, Result.andThen]
  exact hK' _ _ hK
theorem wpListIn_storeArr {F : Fence} {nF : Nat} (hg : o.guard = none) (x y : Operand) (hop : o.op = Op.store 58 x y) (B : Nat) (t : TypeId) (f g : Nat → Nat) (hx : a.eval x = .pointer (some ⟨B, 0, none⟩)) (hy : a.eval y = .agg (arrC g)) (h : Arr w B t f)
    (hK : wpListIn F nF Try.prog ops Q rest (a.put o.dst undef) (w.setRow B (arrC g))) : wpListIn F nF Try.prog ops Q (o :: rest) a w := by
  refine wpListIn_plain hg fun K hK' => ?_
  have hrun := run_storeArr h g
  unfold Oper.wpIn
  refine ⟨by simp [Oper.about, hop], ?_⟩
  rw [Oper.semAt_plain F _ _ (by rw [hop]; intro c hc'; cases hc')]
  simp only [execOp, hop, hx, hy, Sem.run_bind, hrun, Result.andThen]
  exact hK' _ _ hK
end
theorem run_idxArr (f : Nat → Nat) (i : Nat) (hi : i < 12) (W : World) : (Instr.index 58 (.agg (arrC f)) (.int .i64 (i : Int))).run Try.prog W = .ok (.int .i64 ((f i : Nat) : Int)) W := by
  rcases below12 hi with rfl | rfl | rfl | rfl | rfl | rfl | rfl | rfl | rfl | rfl | rfl | rfl <;> kernel_rfl
theorem Try.walksAlso : Try.prog.underlying 58 = some (.array (Try.prog.arrayLen 58) (Try.prog.elem 58)) ∧ Try.prog.arrayLen 58 = 12 ∧ Try.prog.elem 58 = 3 := ⟨by kernel_rfl, by kernel_rfl, by kernel_rfl⟩
theorem run_sliceArr (B n : Nat) (hn : n ≤ 12) (W : World) : (Instr.sliceAt 58 (.pointer (some ⟨B, 0, none⟩)) none (some (.int .i64 (n : Int))) none).run Try.prog W = .ok (.slice (some ⟨B, 0, none⟩) n 12) W := by
  obtain ⟨h1, h2, h3⟩ := Try.walksAlso
  obtain ⟨i, hi, _⟩ := info_parts Try.infoInt
  rw [run_sliceAt_array_h W _ _ h1 .i64 (n : Int) (by omega) (by rw [h2]; omega), h2, h3, run_sizeOf W hi]
  simp [slicedAt, Addr.add, Result.andThen]
theorem run_sliceArrAll (B : Nat) (W : World) : (Instr.sliceAt 58 (.pointer (some ⟨B, 0, none⟩)) none none none).run Try.prog W = .ok (.slice (some ⟨B, 0, none⟩) 12 12) W := by
  obtain ⟨h1, h2, h3⟩ := Try.walksAlso
  obtain ⟨i, hi, _⟩ := info_parts Try.infoInt
  rw [run_sliceAt_array_all W _ _ h1, h2, h3, run_sizeOf W hi]
  simp [slicedAt, Addr.add, Result.andThen]
theorem run_items (d : Nat) (f g : Nat → Nat) (W : World) : ∀ is : List Nat, (∀ i ∈ is, i < 12) → (Op.eqItems (d + 1) 3 1 (arrC f) (arrC g) is).run Try.prog W = .ok (is.all fun i => f i == g i) W
  | [], _ => rfl
  | i :: is, h => by
    have hi := h i (by simp)
    have ih := run_items d f g W is (fun j hj => h j (by simp [hj]))
    have p1 := run_part_plain (P := Try.prog) W (e := 3) (by kernel_rfl) (xs := arrC f) (off := i * 1) (by rw [Nat.mul_one]; exact arr_get f i hi)
    have p2 := run_part_plain (P := Try.prog) W (e := 3) (by kernel_rfl) (xs := arrC g) (off := i * 1) (by rw [Nat.mul_one]; exact arr_get g i hi)
    have p3 := run_equalIn_int (P := Try.prog) W d 3 .i64 .i64 ((f i : Nat) : Int) ((g i : Nat) : Int) Try.underlying3
    simp only [Op.eqItems, Sem.run_bind, p1, p2, p3, Result.andThen_ok, List.all_cons]
    have e : (((f i : Nat) : Int) == ((g i : Nat) : Int)) = (f i == g i) := by
      rw [Bool.eq_iff_iff, beq_iff_eq, beq_iff_eq]
      omega
    rw [e]
    cases f i == g i
    · simp
    · simpa using ih
theorem run_eqArr (f g : Nat → Nat) (W : World) (b : Bool) (hb : b = true ↔ ∀ x, x < 12 → f x = g x) : (binOp .eql 58 (.agg (arrC f)) (.agg (arrC g))).run Try.prog W = .ok (.bool b) W := by
  obtain ⟨i, hi, _⟩ := info_parts Try.infoInt
  have hc : Try.prog.cellsOf 3 = 1 := by kernel_rfl
  rw [run_eql_struct, run_equalIn_array W 9999 (arrC f) (arrC g) Try.walksUnder hi, hc, run_items 9998 f g W _ (fun i hi => by simpa using hi)]
  simp only [Result.andThen_ok]
  congr 2
  rw [Bool.eq_iff_iff, hb]
  simp
/-- How often x has come. -/
theorem count_snoc {r : Nat} (pre : List (Fin r)) (y : Fin r) (x : Nat) : (vals (pre ++ [y])).count x = (vals pre).count x + if x = y.val then 1 else 0 := by
  rw [vals_snoc, List.count_append]
  by_cases e : x = y.val
  · subst e; simp
  · have e' : ¬ y.val = x := fun h => e h.symm
    simp [e, e']
theorem count_come (n L k x : Nat) (hk : k ≤ n) : (vals (comeTo n L k)).count x = if x < k ∧ L.testBit x = true then 1 else 0 := by
  induction k with
  | zero => simp [comeTo, vals]
  | succ k ih =>
    cases hb : L.testBit k
    · rw [comeTo_no hb, ih (by omega)]
      by_cases e : x = k
      · subst e; simp [hb]
      · by_cases c : x < k
        · simp [c, show x < k + 1 by omega]
        · simp [c, show ¬ x < k + 1 by omega]
    · rw [comeTo_yes (by omega) hb, count_snoc, ih (by omega)]
      by_cases e : x = k
      · subst e; simp [hb]
      · by_cases c : x < k
        · simp [c, e, show x < k + 1 by omega]
        · simp [c, e, show ¬ x < k + 1 by omega]
theorem count_len (l : List Nat) (x : Nat) : l.count x ≤ l.length := List.count_le_length
/-- The array by what has come from one place, over what the places before it have made. -/
def addR (n s : Nat) (f : Nat → Nat) (v : Nat) (pre : List Nat) (x : Nat) : Nat := midW n s f v x + f v * pre.count x
theorem addR_nil (n s : Nat) (f : Nat → Nat) (v x : Nat) : addR n s f v [] x = midW n s f v x := by simp [addR]
theorem addR_snoc (n s : Nat) (f : Nat → Nat) (v : Nat) {r : Nat} (pre : List (Fin r)) (y : Fin r) (x : Nat) :
    addR n s f v (vals (pre ++ [y])) x = if x = y.val then addR n s f v (vals pre) y.val + f v else addR n s f v (vals pre) x := by
  unfold addR
  rw [count_snoc]
  by_cases e : x = y.val
  · subst e; simp [Nat.mul_add]; omega
  · simp [e]
theorem mid_out (n s : Nat) (f : Nat → Nat) (v x : Nat) (h1 : 1 ≤ n) (hx : n ≤ x) : midW n s f v x = 0 := by
  unfold midW
  rw [sumTo_congr _ (fun _ => 0) v (fun u hu => by
    unfold rowW
    rw [sumTo_congr _ (fun _ => 0) n (fun d hd => by
      unfold arcW
      have := Nat.mod_lt (u + d) (show 0 < n by omega)
      rw [if_neg (by omega)])]
    exact sumTo_none n)]
  exact sumTo_none v
theorem wlk_out (n s k x : Nat) (h1 : 1 ≤ n) (hx : n ≤ x) : wlkN n s k x = 0 := by
  cases k with
  | zero =>
    show (if x = 0 then 1 else 0) = 0
    rw [if_neg (by omega)]
  | succ k => exact mid_out n s _ n x h1 hx
theorem twelve' {n : Nat} (h1 : 1 ≤ n) (h2 : n ≤ 12) : n = 1 ∨ n = 2 ∨ n = 3 ∨ n = 4 ∨ n = 5 ∨ n = 6 ∨ n = 7 ∨ n = 8 ∨ n = 9 ∨ n = 10 ∨ n = 11 ∨ n = 12 := by omega
theorem step_iff (n v x d : Nat) (h1 : 1 ≤ n) (h2 : n ≤ 12) (hx : x < n) (hd : d < n) (hv : v < n) : (v + d) % n = x ↔ d = (x + n - v) % n := by
  rcases twelve' h1 h2 with rfl | rfl | rfl | rfl | rfl | rfl | rfl | rfl | rfl | rfl | rfl | rfl <;> omega
theorem row_shift (n s : Nat) (f : Nat → Nat) (v x : Nat) (h1 : 1 ≤ n) (h2 : n ≤ 12) (hs : s < 2 ^ n) (hv : v < n) (hx : x < n) :
    rowW n s f v n x = f v * b2n ((shiftN n s (v : Int)).testBit x) := by
  have e : (shiftN n s (v : Int)).testBit x = s.testBit ((x + n - v) % n) := by
    have hi := shiftN_bit n s (v : Int) h1 hs x
    have hl : (x + n - v) % n < n := Nat.mod_lt _ (by omega)
    have hr : ∀ d, d < n → (rest n ((d : Int) + (v : Int)) = x ↔ d = (x + n - v) % n) := fun d hd => by
      rw [show (d : Int) + (v : Int) = (((v + d : Nat)) : Int) by omega]
      have : rest n (((v + d : Nat)) : Int) = (v + d) % n := by
        unfold rest
        omega
      rw [this]
      exact step_iff n v x d h1 h2 hx hd hv
    cases hb : s.testBit ((x + n - v) % n)
    · cases hc : (shiftN n s (v : Int)).testBit x
      · rfl
      · obtain ⟨d, hd, hdb, e⟩ := hi.1 hc
        rw [(hr d hd).1 e, hb] at hdb
        cases hdb
    · exact hi.2 ⟨_, hl, hb, (hr _ hl).2 rfl⟩
  rw [e]
  unfold rowW
  have h := sumTo_hit ((x + n - v) % n) (f v * b2n (s.testBit ((x + n - v) % n))) n
  rw [if_pos (Nat.mod_lt _ (by omega))] at h
  rw [← h]
  refine sumTo_congr _ _ n fun d hd => ?_
  unfold arcW
  by_cases a : (v + d) % n = x
  · have a' := (step_iff n v x d h1 h2 hx hd hv).1 a
    rw [if_pos a, if_pos a'.symm, ← a']
  · rw [if_neg a, if_neg (fun e => a ((step_iff n v x d h1 h2 hx hd hv).2 e.symm))]
/-- All that come from one place have come. -/
theorem addR_end (n s : Nat) (f : Nat → Nat) (v x : Nat) (h1 : 1 ≤ n) (h2 : n ≤ 12) (hs : s < 2 ^ n) (hv : v < n) :
    addR n s f v (vals (comeTo n (shiftN n s (v : Int)) n)) x = midW n s f (v + 1) x := by
  unfold addR
  rw [count_come n _ n x (Nat.le_refl n)]
  by_cases hx : x < n
  · show _ = midW n s f v x + rowW n s f v n x
    rw [row_shift n s f v x h1 h2 hs hv hx]
    cases hb : (shiftN n s (v : Int)).testBit x
    · simp [b2n]
    · simp [b2n, hx]
  · rw [mid_out n s f v x h1 (by omega), mid_out n s f (v + 1) x h1 (by omega)]
    simp [hx]
end Go.Proofs.Ytookciehnjnmnaa
