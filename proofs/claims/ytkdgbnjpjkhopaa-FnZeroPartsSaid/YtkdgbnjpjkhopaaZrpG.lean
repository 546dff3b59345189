/- Rows, the program's side: the least choices with the sum 0. Written by gen113.py. -/
import Derived.Test.YtkdgbnjpjkhopaaZrpF
namespace Go.Proofs.Ytkdgbnjpjkhopaa
open Go.RowKit Go.Shelf
set_option linter.unusedVariables false
attribute [local go_sem] Oper.semAt_some
/-- v reads as a list of sets, in memory from block b on. -/
def IsZs (W : World) (b : Nat) (v : Value) (xs : List Int) : Prop := W.ownsRow b 45 1 v xs.length (xs.map (Value.int .i64))
theorem IsZs.cell {W : World} {b g cap len : Nat} {xs : List Int} (h : IsZs W b (.slice (some ⟨g, 0, none⟩) len cap) xs) {i : Nat} (hi : i < xs.length) : W.cell? ⟨g, i, none⟩ = some (.int .i64 (xs.getD i 0)) := by
  have hx : (xs.map (Value.int .i64))[i]? = some (.int .i64 (xs.getD i 0)) := by
    rw [List.getElem?_map, List.getElem?_eq_getElem hi, List.getD_eq_getElem?_getD, List.getElem?_eq_getElem hi]; rfl
  have h2 := World.ownsRow.cells h (g := g) rfl i _ hx
  rw [addr_add, Nat.zero_add] at h2
  exact h2
theorem IsZs.shape {W : World} {b : Nat} {v : Value} {xs : List Int} (h : IsZs W b v xs) : (v = .slice none 0 0 ∧ xs = []) ∨ ∃ g cap, v = .slice (some ⟨g, 0, none⟩) xs.length cap ∧ b ≤ g ∧ ∃ cur, W.heap[g]? = some (.cells cur 45 (0, 0)) := by
  rcases h.2 with ⟨a, c⟩ | ⟨g, cap, cur, rfl, h1, hg, _⟩
  · exact .inl ⟨a, List.eq_nil_of_length_eq_zero c⟩
  · exact .inr ⟨g, cap, rfl, h1, cur, hg⟩
theorem IsZs.slice {W : World} {b : Nat} {v : Value} {xs : List Int} (h : IsZs W b v xs) : ∃ A cap, v = .slice A xs.length cap ∧ (0 < xs.length → ∃ g, A = some ⟨g, 0, none⟩ ∧ ∀ i, i < xs.length → W.cell? ⟨g, i, none⟩ = some (.int .i64 (xs.getD i 0))) := by
  rcases h.shape with ⟨rfl, rfl⟩ | ⟨g, cap, rfl, _, _⟩
  · exact ⟨none, 0, rfl, fun hp => absurd hp (Nat.lt_irrefl _)⟩
  · exact ⟨_, cap, rfl, fun _ => ⟨g, rfl, fun i hi => h.cell hi⟩⟩
theorem IsZs.same {W W' : World} {b : Nat} {v : Value} {xs : List Int} (h : IsZs W b v xs) (e : ∀ g cur, W.heap[g]? = some (.cells cur 45 (0, 0)) → b ≤ g → W'.heap[g]? = W.heap[g]?) : IsZs W' b v xs := by
  refine ⟨h.1, ?_⟩
  rcases h.2 with hn | ⟨g, cap, cur, rfl, h1, hgg, rest⟩
  · exact .inl hn
  · exact .inr ⟨g, cap, cur, rfl, h1, (e g cur hgg h1).trans hgg, rest⟩
theorem IsZs.belowAll {W W' : World} {b : Nat} {v : Value} {xs : List Int} (h : IsZs W b v xs) (hb : Below W.heap.size W W') : IsZs W' b v xs :=
  h.same fun g cur hg _ => hb.block g (Array.getElem?_eq_some_iff.1 hg).1
theorem IsZs.outside {W W' : World} {b B : Nat} {v : Value} {xs : List Int} (h : IsZs W b v xs) (k : Outside B B W W') : IsZs W' b v xs :=
  h.same fun g cur hg _ => by
    by_cases hB : g < B
    · exact k.low g hB
    · exact (k.high g _ (by omega) hg rfl).trans hg.symm
theorem IsZs.base {W : World} {b b' : Nat} {v : Value} {xs : List Int} (h : IsZs W b v xs) (hb : b' ≤ b) : IsZs W b' v xs := by
  refine ⟨h.1, ?_⟩
  rcases h.2 with hn | ⟨g, cap, cur, rfl, h1, rest⟩
  · exact .inl hn
  · exact .inr ⟨g, cap, cur, rfl, by omega, rest⟩
theorem Try.infoZs : (Try.prog.info? 45).map (fun i => (i.zero, i.size, i.bytes)) = some (some (.int .i64 0), 1, 8) := by kernel_rfl
theorem snoc_zs {W : World} {b : Nat} {v : Value} {xs : List Int} {z : Int} (h : W.ownsRow b 45 1 v (xs.length + 1) (xs.map (Value.int .i64) ++ [.int .i64 z])) : IsZs W b v (xs ++ [z]) := by
  unfold IsZs
  rw [List.length_append, List.map_append]
  exact h
theorem wp_append_zs {o : Oper} {act : Act} {K : Act → World → Prop} {Q : Exit → Act → World → Prop} (s x : Operand) (ho : o.op = .call { callee := .builtin .append, args := #[s, x], argTypes := #[43, 43] })
    (a : Value) (xs : List Int) (r : Int) (W : World) (N : Nat) (hs : act.eval s = a) (hx : act.eval x = .slice (some ⟨W.heap.size, 0, none⟩) 1 1) (hO : IsZs W N a xs) (hl : xs.length ≤ 100000) (hN : N ≤ W.heap.size)
    (h : ∀ (v' : Value) (w1 : World), IsZs w1 N v' (xs ++ [r]) → (W.alloc (.cells #[.int .i64 r] 45)).grownBy w1 a.ownBlock → K (act.put o.dst v') w1) : o.wp Try.prog act (W.alloc (.cells #[.int .i64 r] 45)) K Q := by
  obtain ⟨i0, hi, hz0, hz1, hz2⟩ := info_parts Try.infoZs
  have hO2 : (W.alloc (.cells #[.int .i64 r] 45)).ownsRow N 45 1 a xs.length (xs.map (Value.int .i64)) := World.ownsRow.alloc hO _
  have hc1 : ∀ j u, [Value.int .i64 r][j]? = some u → (W.alloc (.cells #[.int .i64 r] 45)).cell? ((⟨W.heap.size, 0, none⟩ : Addr).add j) = some u := by
    intro j u hj
    cases j with
    | zero => simp at hj; subst hj; simp [Addr.add]
    | succ j => simp at hj
  have hc2 : ∀ u ∈ [Value.int .i64 r], u.oneCell' = true := by intro u hu; simp at hu; subst hu; rfl
  have hc3 : xs.length + 1 ≤ maxLen := by unfold maxLen; omega
  have hc4 : N ≤ (W.alloc (.cells #[.int .i64 r] 45)).heap.size := by simp; omega
  refine wp_append_own (W.alloc (.cells #[.int .i64 r] 45)) s x 43 ho N 45 i0 (.int .i64 0) 1 8 Try.underlying43 hi hz0 hz1 hz2 rfl (by decide) a xs.length _ hs hO2 ⟨W.heap.size, 0, none⟩ 1 1 [.int .i64 r] hx rfl hc1 hc2 hc3 (by omega) hc4 fun v' w1 hown' hgrow hiff => ?_
  exact h v' w1 (snoc_zs hown') hgrow
theorem wpListIn_append_zs {l m : Nat} {ops : Array Oper} {rest : List Oper} {o : Oper} {act : Act} {Q : Exit → Act → World → Prop} (hgd : Region.wanted o (yielded ops act.tmps) = true) (hd : noDefer o = true) (hlo : ¬ LetsOut Q) (s x : Operand) (ho : o.op = .call { callee := .builtin .append, args := #[s, x], argTypes := #[43, 43] })
    (a : Value) (xs : List Int) (r : Int) (W : World) (N : Nat) (hs : act.eval s = a) (hx : act.eval x = .slice (some ⟨W.heap.size, 0, none⟩) 1 1) (hO : IsZs W N a xs) (hl : xs.length ≤ 100000) (hN : N ≤ W.heap.size)
    (h : ∀ (v' : Value) (w1 : World), IsZs w1 N v' (xs ++ [r]) → (W.alloc (.cells #[.int .i64 r] 45)).grownBy w1 a.ownBlock → wpListIn (Fence.wide.inRound l) m Try.prog ops Q rest (act.put o.dst v') w1) : wpListIn (Fence.wide.inRound l) m Try.prog ops Q (o :: rest) act (W.alloc (.cells #[.int .i64 r] 45)) :=
  BigFrame.wpListIn_want hgd fun K hK => wpInR_of_wp hd hlo (wp_append_zs s x ho a xs r W N hs hx hO hl hN fun v' w1 h1 h2 => hK _ _ (h v' w1 h1 h2))
theorem kept_grown {B : Nat} {C : Nat → Prop} {X Y : World} {row : Option Nat} (hg : X.grownBy Y row) (hr : ∀ r, row = some r → ∃ cur, X.heap[r]? = some (.cells cur 45 (0, 0))) : Kept 45 B C X Y :=
  ⟨hg.os, hg.tape, hg.output, hg.size, fun k _ h2 h3 => hg.block k h2 (fun e => by
    obtain ⟨cur, hc⟩ := hr k e.symm
    exact h3 cur hc)⟩
/-- What an append to the list in a box leaves. -/
theorem zs_step {w W w1 : World} {T N B : Nat} {C : Nat → Prop} {t : TypeId} {ov v' : Value} {m ys : List Int} {tmp : Obj} (hv : Boxed W T t ov) (hO : IsZs W N ov m) (hT : T < N) (hN : N ≤ W.heap.size) (hI : IsZs w1 N v' ys) (hg : (W.alloc tmp).grownBy w1 ov.ownBlock)
    (hTB : T < B) (hTC : ¬ C T) (hw : w.heap.size ≤ T) (hB : Below w.heap.size w W) :
    Boxed w1 T t ov ∧ Boxed (w1.setCell ⟨T, 0, none⟩ v') T t v' ∧ IsZs (w1.setCell ⟨T, 0, none⟩ v') N v' ys ∧ Kept 45 B C W (w1.setCell ⟨T, 0, none⟩ v') ∧ Below w.heap.size w (w1.setCell ⟨T, 0, none⟩ v') := by
  have hrow : ∀ r, ov.ownBlock = some r → N ≤ r ∧ ∃ cur, (W.alloc tmp).heap[r]? = some (.cells cur 45 (0, 0)) := fun r e => by
    rcases hO.shape with ⟨rfl, _⟩ | ⟨g, cap, rfl, h1, cur, hc⟩
    · cases e
    · have : g = r := by simpa [Value.ownBlock] using e
      subst this
      exact ⟨h1, cur, (Below.heap_alloc W tmp g (Array.getElem?_eq_some_iff.1 hc).1).trans hc⟩
  have hv1 : Boxed w1 T t ov := (hv.alloc tmp).kept hg (fun e => by have := (hrow T e.symm).1; omega)
  refine ⟨hv1, hv1.set v', hI.same fun g cur _ hgN => Below.heap_setCell w1 ⟨T, 0, none⟩ v' g (by show g ≠ T; omega), ?_, ?_⟩
  · exact ((Kept.below ((Below.refl _ W).alloc (Nat.le_refl _) tmp)).trans (kept_grown hg fun r e => (hrow r e).2)).trans (Kept.setCell w1 ⟨T, 0, none⟩ v' hTB hTC)
  · refine ((hB.alloc hB.size tmp).grown hg (by simp; have := hB.size; omega) fun j ej => ?_).setCell (p := ⟨T, 0, none⟩) hw v'
    have := (hrow j ej).1
    omega
/-- Whether a part lies within a choice. -/
theorem part_any (d c : Nat) (w : World) (hd : d < 4096) (hc : c < 4096) :
    Calls Try.prog 34 #[.int .i64 ((d : Nat) : Int), .int .i64 ((c : Nat) : Int)] w fun e w' => e = .returned (.bool (Nat.beq (lessN d c) 0)) ∧ w = w' := by
  have hl := less_nat d c (by omega) (by omega)
  have hcast := cast_beq (lessN d c) 0
  generalize lessN d c = x at *
  have HC := Lib.hid hcast
  clear hcast
  go_enter Try.func34, Try.ntmps34
  go_wp2
  go_ret
  exact ⟨ret_bool (by first | exact HC.out | simpa using HC.out), rfl⟩
/-- The same for a function in one box and a choice in another. -/
theorem inIt_any (d c Pz Bz : Nat) (w : World) (hd : d < 4096) (hc : c < 4096) (bp : Boxed w Pz 59 (.func (.func 34) #[] #[])) (bz : Boxed w Bz 45 (.int .i64 ((c : Nat) : Int))) :
    Calls Try.prog 40 #[.int .i64 ((d : Nat) : Int), .pointer (some ⟨Pz, 0, none⟩), .pointer (some ⟨Bz, 0, none⟩)] w fun e w' => e = .returned (.bool (Nat.beq (lessN d c) 0)) ∧ w = w' := by
  have cz := bz.cell
  have cp := bp.cell
  have HP := Lib.hid (part_any d c w hd hc)
  clear bz bp
  go_enter Try.func40, Try.ntmps40
  go_wp2_with (go_at_call 34; refine HP.out.mono ?_; rintro e w2 ⟨rfl, rfl⟩)
  go_ret
  exact ⟨rfl, rfl⟩
/-- The first part of a choice among some, or -1. -/
theorem indexFunc_any (zs : List Int) (A : Option Addr) (cap c Pz Bz L : Nat) (w : World) (q : Bool) (hq : zs.any (fun d => Nat.beq (lessN d.toNat c) 0) = q) (hL : zs.length = L) (hl : L ≤ 100000) (hc : c < 4096) (bp : Boxed w Pz 59 (.func (.func 34) #[] #[])) (bz : Boxed w Bz 45 (.int .i64 ((c : Nat) : Int)))
    (hA : 0 < L → ∃ g, A = some ⟨g, 0, none⟩ ∧ ∀ i, i < L → w.cell? ⟨g, i, none⟩ = some (.int .i64 (zs.getD i 0))) (hz : ∀ i, i < L → ∃ d : Nat, zs.getD i 0 = (d : Int) ∧ d < 4096) :
    Calls Try.prog 45 #[.slice A L cap, .func (.func 40) #[] #[.pointer (some ⟨Pz, 0, none⟩), .pointer (some ⟨Bz, 0, none⟩)]] w fun e w' => ∃ i : Int, e = .returned (.int .i64 i) ∧ w = w' ∧ ((0 ≤ i ∧ q = true) ∨ (i = -1 ∧ q = false)) := by
  have HA := Lib.hid hA
  have HZ := Lib.hid hz
  have HP := Lib.hid (fun d hd => inIt_any d c Pz Bz w hd hc bp bz)
  have HL := Lib.hid hL
  have HQ := Lib.hid hq
  clear hA hz hL bz bp hq
  go_enter Try.func45, Try.ntmps45
  go_wp2
  go_loopw [4, 5, 8] (fun u4 u5 u wr => ∃ k : Nat, k ≤ L ∧ u = .int .i64 (k : Int) ∧ u4 = .int .i64 0 ∧ w = wr ∧ Hid (∀ j, j < k → Nat.beq (lessN (zs.getD j 0).toNat c) 0 = false)) (fun _ _ u _ => L - (intOf u).toNat)
  case atStart => exact ⟨0, Nat.zero_le _, rfl, rfl, rfl, Lib.hid (fun j hj => absurd hj (by omega))⟩
  case round =>
    obtain ⟨k, hk, rfl, rfl, hw, HE⟩ := hrel
    subst hw
    by_cases hlt : k < L
    · obtain ⟨g, rfl, hcell⟩ := HA.out (by omega)
      have c1 := hcell k hlt
      obtain ⟨d, hd, hd2⟩ := HZ.out k hlt
      rw [hd] at c1
      have i1 : (0 : Int) ≤ (k : Int) := by omega
      have i2 : (k : Int) < (L : Int) := by omega
      have hwk : IntKind.i64.wrap ((k : Int) + 1) = ((k + 1 : Nat) : Int) := by rw [IntWalk.i64_in _ ⟨by omega, by omega⟩]; rfl
      have HPd := HP.out d hd2
      have hto : (zs.getD k 0).toNat = d := by rw [hd]; rfl
      cases hb : Nat.beq (lessN d c) 0
      · have HEn : Hid (∀ j, j < k + 1 → Nat.beq (lessN (zs.getD j 0).toNat c) 0 = false) := Lib.hid (fun j hj => by
          by_cases e : j = k
          · subst e; rw [hto]; exact hb
          · exact HE.out j (by omega))
        rw [hb] at HPd
        have HPz := Lib.hid HPd
        clear HPd hb hto hd hcell
        go_wp2_with (go_at_call 40; refine HPz.out.mono ?_; rintro e w2 ⟨rfl, rfl⟩)
        go_roundw
        case rel => exact ⟨k + 1, by omega, by go_num, rfl, by first | rfl | trivial, HEn⟩
        case measure => simp [intOf]; omega
      · have HV : Hid (q = true) := Lib.hid (by
          rw [← HQ.out]
          refine List.any_eq_true.2 ⟨zs.getD k 0, ?_, by rw [hto]; exact hb⟩
          rw [List.getD_eq_getElem?_getD, List.getElem?_eq_getElem (by rw [HL.out]; exact hlt)]
          exact List.getElem_mem _)
        rw [hb] at HPd
        have HPz := Lib.hid HPd
        clear HPd hb hto hd hcell
        go_wp2_with (go_at_call 40; refine HPz.out.mono ?_; rintro e w2 ⟨rfl, rfl⟩)
        go_ret
        exact ⟨_, rfl, rfl, .inl ⟨i1, HV.out⟩⟩
    · have HV : Hid (q = false) := Lib.hid (by
        rw [← HQ.out]
        refine List.any_eq_false.2 fun z hz => ?_
        obtain ⟨j, hj, rfl⟩ := List.getElem_of_mem hz
        have h9 := HE.out j (by rw [HL.out] at hj; omega)
        rw [List.getD_eq_getElem?_getD, List.getElem?_eq_getElem hj] at h9
        rw [show (some zs[j]).getD 0 = zs[j] from rfl] at h9
        rw [h9]; simp)
      have i2 : ¬ ((k : Int) < (L : Int)) := by omega
      clear hlt hk
      go_wp2
      go_ret
      exact ⟨_, rfl, rfl, .inr ⟨rfl, HV.out⟩⟩
theorem containsFunc_any (zs : List Int) (A : Option Addr) (cap c Pz Bz L : Nat) (w : World) (q : Bool) (hq : zs.any (fun d => Nat.beq (lessN d.toNat c) 0) = q) (hL : zs.length = L) (hl : L ≤ 100000) (hc : c < 4096) (bp : Boxed w Pz 59 (.func (.func 34) #[] #[])) (bz : Boxed w Bz 45 (.int .i64 ((c : Nat) : Int)))
    (hA : 0 < L → ∃ g, A = some ⟨g, 0, none⟩ ∧ ∀ i, i < L → w.cell? ⟨g, i, none⟩ = some (.int .i64 (zs.getD i 0))) (hz : ∀ i, i < L → ∃ d : Nat, zs.getD i 0 = (d : Int) ∧ d < 4096) :
    Calls Try.prog 41 #[.slice A L cap, .func (.func 40) #[] #[.pointer (some ⟨Pz, 0, none⟩), .pointer (some ⟨Bz, 0, none⟩)]] w fun e w' => e = .returned (.bool q) ∧ w = w' := by
  have HX := indexFunc_any zs A cap c Pz Bz L w q hq hL hl hc bp bz hA hz
  have HX := Lib.hid HX
  clear hA hz bz bp hq hL
  go_enter Try.func41, Try.ntmps41
  go_wp2_with fail
  refine HX.out.mono ?_
  rintro e w1 ⟨i, rfl, rfl, ⟨hi, rfl⟩ | ⟨rfl, rfl⟩⟩
  · have d1 : decide (i ≥ 0) = true := decide_eq_true hi
    have d2 : decide (0 ≤ i) = true := decide_eq_true hi
    go_wp2
    go_ret
    exact ⟨ret_bool (by first | exact d1 | exact d2 | rfl), rfl⟩
  · go_wp2
    go_ret
    exact ⟨ret_bool (by first | rfl | decide), rfl⟩
theorem put_foldl_len (l : List Nat) (a : List Int) : (l.foldl putL a).length ≤ a.length + l.length := by
  induction l generalizing a with
  | nil => exact Nat.le_refl _
  | cons c l ih =>
    have h1 := ih (putL a c)
    have h2 := put_len a c
    show (l.foldl putL (putL a c)).length ≤ a.length + (l.length + 1)
    omega
theorem put_foldl_mem (l : List Nat) (a : List Int) (N : Nat) (ha : ∀ z, z ∈ a → ∃ d : Nat, z = (d : Int) ∧ d < N) (hl : ∀ c, c ∈ l → c < N) : ∀ z, z ∈ l.foldl putL a → ∃ d : Nat, z = (d : Int) ∧ d < N := by
  induction l generalizing a with
  | nil => exact ha
  | cons c l ih =>
    refine ih (putL a c) (fun z hz => ?_) (fun d hd => hl d (List.mem_cons_of_mem _ hd))
    unfold putL at hz
    split at hz
    · exact ha z hz
    · rcases List.mem_append.1 hz with h | h
      · exact ha z h
      · exact ⟨c, List.mem_singleton.1 h, hl c (by simp)⟩
theorem vals_below {N : Nat} (pre : List (Fin N)) : ∀ c, c ∈ vals pre → c < N := fun c hc => by
  unfold vals at hc
  obtain ⟨x, _, rfl⟩ := List.mem_map.1 hc
  exact x.isLt
theorem vals_size {N : Nat} (pre : List (Fin N)) : (vals pre).length = pre.length := by simp [vals]
theorem zs_other {W w1 : World} {T N k : Nat} {t' : TypeId} {ov v' fv : Value} {m : List Int} {tmp : Obj} (hO : IsZs W N ov m) (hN : N ≤ W.heap.size) (hg : (W.alloc tmp).grownBy w1 ov.ownBlock) (hk : k < N) (hkT : k ≠ T) (b : Boxed W k t' fv) : Boxed (w1.setCell ⟨T, 0, none⟩ v') k t' fv := by
  have hrow : ∀ r, ov.ownBlock = some r → N ≤ r := fun r e => by
    rcases hO.shape with ⟨rfl, _⟩ | ⟨g, cap, rfl, h1, cur, hc⟩
    · cases e
    · have : g = r := by simpa [Value.ownBlock] using e
      omega
  have hv1 : Boxed w1 k t' fv := (b.alloc tmp).kept hg (fun e => by have := hrow k e.symm; omega)
  exact (Below.heap_setCell w1 ⟨T, 0, none⟩ v' k (by show k ≠ T; exact hkT)).trans hv1
set_option maxRecDepth 100000 in
set_option maxHeartbeats 8000000 in
theorem leastOf_any (n R g L cap : Nat) (xs : List Int) (w : World) (h1 : 1 ≤ n) (h2 : n ≤ 12) (hL : L ≤ 12) (hlc : L ≤ cap) (hr : ∀ i, i < xs.length → 0 ≤ xs.getD i 0 ∧ xs.getD i 0 < (n:Int)) (bZ : Duo w R 40 (.int .i64 (n:Int)) (.slice (some ⟨g, 0, none⟩) L cap)) (hS : Shows w g L xs) :
    Calls Try.prog 32 #[.func (.func 42) #[] #[.pointer (some ⟨R, 0, none⟩)], (.func (.func 34) #[] #[])] w fun e w' => ∃ v, e = .returned v ∧ Below w.heap.size w w' ∧ IsZs w' w.heap.size v (leastL n (rowZ xs) xs.length) := by
  have hp := pow_le L hL
  have hxl := hS.size
  have hgl := hS.lt
  have hp2 : 2 ^ xs.length ≤ 4096 := by rw [hxl]; exact hp
  refine (callsIn_wide (n := 9)).1 ?_
  refine callsIn_of_wp_marks Try.func32 rfl trivial ?_ rfl
  simp only [Try.ntmps32, List.size_toArray, List.length_cons, List.length_nil, Nat.reduceAdd, Nat.reduceSub, Array.replicate_succ, Array.replicate_zero, List.push_toArray, List.append_toArray, List.nil_append, List.cons_append]
  gi_wp2
  have bF0 := (Boxed.new w 59 (.func (.func 34) #[] #[])).alloc (.cells #[.slice none 0 0] 43)
  have bT0 := Boxed.new (w.alloc (.cells #[.func (.func 34) #[] #[]] 59)) 43 (.slice none 0 0)
  simp only [World.size_alloc] at bT0
  have bZ0 : Duo ((w.alloc (.cells #[.func (.func 34) #[] #[]] 59)).alloc (.cells #[.slice none 0 0] 43)) R 40 (.int .i64 (n:Int)) (.slice (some ⟨g, 0, none⟩) L cap) := (bZ.alloc _).alloc _
  have hRl := bZ.lt
  have hB0 : Below w.heap.size w ((w.alloc (.cells #[.func (.func 34) #[] #[]] 59)).alloc (.cells #[.slice none 0 0] 43)) := ((Below.refl _ w).alloc (Nat.le_refl _) _).alloc (by simp) _
  have hz0 : ((w.alloc (.cells #[.func (.func 34) #[] #[]] 59)).alloc (.cells #[.slice none 0 0] 43)).heap.size = w.heap.size + 2 := by simp
  obtain ⟨W0, hW0⟩ : ∃ W0, ((w.alloc (.cells #[.func (.func 34) #[] #[]] 59)).alloc (.cells #[.slice none 0 0] 43)) = W0 := ⟨_, rfl⟩
  rw [hW0] at bF0 bT0 bZ0 hB0 hz0 ⊢
  clear hW0 bZ
  have hS0 := hS.belowAll hB0
  clear hS
  have HEnd := Lib.hid (fold_put n xs)
  have HPl := Lib.hid (fun (pre : List (Fin (2 ^ xs.length))) => (show (foldP putL [] (vals pre)).length ≤ pre.length by
    have h9 := put_foldl_len (vals pre) []
    rw [vals_size, List.length_nil, Nat.zero_add] at h9
    exact h9))
  have HPm := Lib.hid (fun (pre : List (Fin (2 ^ xs.length))) => (show ∀ z, z ∈ foldP putL [] (vals pre) → ∃ d : Nat, z = (d : Int) ∧ d < 4096 from put_foldl_mem (vals pre) [] 4096 (fun z hz => by simp at hz) (fun c hc => Nat.lt_of_lt_of_le (vals_below pre c hc) hp2)))
  have HPs := Lib.hid (fun (pre : List (Fin (2 ^ xs.length))) x => foldP_snoc putL [] pre x)
  refine rangeReadsA rfl (by omega) (gf := 42) (lb := #[.pointer (some ⟨R, 0, none⟩)]) rfl trivial (enters_of Try.func42 (by kernel_rfl) rfl)
    (zeros_keeps n R g L cap xs W0 h1 h2 hL hlc hr bZ0 hS0) (fun k hk => by subst hk; omega) (Below.refl _ _) rdZ_put
    (fun pre W9 => Boxed W9 w.heap.size 59 (.func (.func 34) #[] #[]) ∧ ∃ ov, Boxed W9 (w.heap.size + 1) 43 ov ∧ IsZs W9 (w.heap.size + 2) ov (foldP putL [] (vals pre)) ∧ Below w.heap.size w W9)
    (fun c pre W9 => False)
    (fun pre A B h k => by
      obtain ⟨b0, ov, b1, b2, b3⟩ := h
      exact ⟨boxed_outside b0 k, ov, boxed_outside b1 k, b2.outside k, below_outside b3 k (by omega)⟩)
    (fun c pre A B h k => h)
    rdZ_below ⟨bF0, _, bT0, World.ownsRow_nil _ _ _ _, hB0⟩
    (fun v a' W9 => ∃ (Bx : Nat) (z : Int), v = .int .i64 z ∧ a' = { tmps := #[.func (.func 42) #[] #[.pointer (some ⟨R, 0, none⟩)], .func (.func 34) #[] #[], undef, .pointer (some ⟨w.heap.size, 0, none⟩), .slice none 0 0, .pointer (some ⟨w.heap.size + 1, 0, none⟩), .pointer (some ⟨Bx, 0, none⟩), undef, .func (.func 42) #[] #[.pointer (some ⟨R, 0, none⟩)], v, undef, undef, undef, undef, undef, undef, undef, undef, undef, undef], defers := [] } ∧ Boxed W9 Bx 45 v)
    (fun v a' W9 l' o o' h hl ho => by
      obtain ⟨Bx, z, e1, e2, hT⟩ := h
      refine ⟨Bx, z, e1, e2, (World.putObj_heap_other (fun e => ?_)).trans hT⟩
      subst e
      have hT' : W9.heap[Bx]? = _ := hT
      rw [hl] at hT'
      cases hT'
      cases ho) ?assign ?body ?done ?stop
  case assign =>
    rintro l' x v W9 K hz rfl hK
    gi_wp2
    refine hK _ _ ?_ ⟨W9.heap.size, _, rfl, rfl, ?_⟩
    · exact (Below.refl _ _).alloc (Nat.le_refl _) _
    · exact Boxed.new W9 45 _
  case body =>
    rintro l' pre x v a' W9 hz ⟨bF, ov, bT, hO, hB⟩ rfl ⟨Bx, z, hzv, rfl, bz⟩ hlen
    have hx := x.isLt
    have hlz := HPl.out pre
    have HMm := Lib.hid (HPm.out pre)
    have HSx := Lib.hid (HPs.out pre x)
    generalize hzs : foldP putL [] (vals pre) = zs at *
    clear hzs hzv
    obtain ⟨A, cp, rfl, hA⟩ := hO.slice
    have cT := bT.cell
    have cz := bz.cell
    have HZ : Hid (∀ i, i < zs.length → ∃ d : Nat, zs.getD i 0 = (d : Int) ∧ d < 4096) := Lib.hid (fun i hi => HMm.out _ (by
      rw [List.getD_eq_getElem?_getD, List.getElem?_eq_getElem hi]
      exact List.getElem_mem _))
    have HC := Lib.hid (fun q hq => containsFunc_any zs A cp x.val w.heap.size Bx zs.length W9 q hq rfl (by omega) (by omega) bF bz hA HZ.out)
    have HST := Lib.hid (fun v' w1 hI hg => zs_step (w := w) (v' := v') (w1 := w1) (B := W0.heap.size) (C := fun k => k = g) (ys := zs ++ [((x.val : Nat) : Int)]) (tmp := .cells #[.int .i64 ((x.val : Nat) : Int)] 45) bT hO (by omega) (by omega) hI hg (by omega) (by show ¬ w.heap.size + 1 = g; omega) (by omega) hB)
    have HOT := Lib.hid (fun v' w1 hg => zs_other (w1 := w1) (T := w.heap.size + 1) (v' := v') (tmp := .cells #[.int .i64 ((x.val : Nat) : Int)] 45) hO (by omega) hg (by omega) (by omega) bF)
    cases hq : zs.any (fun d => Nat.beq (lessN d.toNat x.val) 0)
    · have HCq := Lib.hid (HC.out false hq)
      have HU : Hid (putL zs x.val = zs ++ [((x.val : Nat) : Int)]) := Lib.hid (by unfold putL; rw [hq]; rfl)
      have HO := Lib.hid hO
      have HZz := Lib.hid (show w.heap.size + 2 ≤ W9.heap.size by omega)
      have HLz := Lib.hid (show zs.length ≤ 100000 by omega)
      clear HC hq hA hO hB bT bF
      gi_wp2_with (first
        | (refine ⟨trivial, ?_⟩; gi_at_call 41; refine (callsIn_wide.2 HCq.out).mono ?_; rintro e w2 ⟨rfl, rfl⟩)
        | (gi_at_builtin; go_loud (refine wpListIn_append_zs (by rfl) (by rfl) (by exact fun ⟨_, _, h⟩ => h) _ _ rfl _ zs ((x.val : Nat) : Int) W9 (w.heap.size + 2) rfl rfl HO.out HLz.out HZz.out ?_; intro v' w1 hI1 hg1; obtain ⟨bT2, bT3, hI3, hk3, hb3⟩ := HST.out v' w1 hI1 hg1; have bF3 := HOT.out v' w1 hg1; obtain ⟨A9, cap9, rfl, _⟩ := hI1.slice; have fT := bT2.frozen; have cT1 := bT2.cell; have HN3 := Lib.hid (⟨hk3, bF3, bT3, hI3, hb3⟩ : _ ∧ _ ∧ _ ∧ _ ∧ _); clear hI1 hI3 hg1 hk3 hb3 bT3 bT2 bF3))
        | go_in)
      have h9 := HN3.out
      rw [show (zs ++ [((x.val : Nat) : Int)]).length = zs.length + 1 from by simp] at h9
      exact ⟨h9.1, h9.2.1, _, h9.2.2.1, by rw [HSx.out, HU.out]; exact h9.2.2.2.1, h9.2.2.2.2⟩
    · have HCq := Lib.hid (HC.out true hq)
      have HU : Hid (putL zs x.val = zs) := Lib.hid (by unfold putL; rw [hq]; rfl)
      have HN : Hid (Boxed W9 w.heap.size 59 (.func (.func 34) #[] #[]) ∧ ∃ ov, Boxed W9 (w.heap.size + 1) 43 ov ∧ IsZs W9 (w.heap.size + 2) ov (foldP putL [] (vals (pre ++ [x]))) ∧ Below w.heap.size w W9) := Lib.hid ⟨bF, _, bT, by rw [HSx.out, HU.out]; exact hO, hB⟩
      clear HC hq hA hO hB bT bF HST HOT
      gi_wp2_with (first
        | (refine ⟨trivial, ?_⟩; gi_at_call 41; refine (callsIn_wide.2 HCq.out).mono ?_; rintro e w2 ⟨rfl, rfl⟩)
        | go_in)
      exact ⟨Kept.refl _ _ _ _, HN.out⟩
  case done =>
    rintro D ys W9 hD rfl ⟨_, ov, bT, hO, hB⟩ hK
    rw [HEnd.out] at hO
    have cT := bT.cell
    have HN : Hid (Below w.heap.size w (W9.putObj D (.deferred none)) ∧ IsZs (W9.putObj D (.deferred none)) w.heap.size ov (leastL n (rowZ xs) xs.length)) := Lib.hid ⟨hB.trans (belowK_b (w := w) (Nat.le_refl _) _ D _ (.deferred none) (by omega) hK rfl rfl), (hO.outside (Outside.putObj (B := 0) (M := 0) W9 _ (Nat.zero_le _) hK rfl)).base (by omega)⟩
    obtain ⟨A, cp, rfl, _⟩ := hO.slice
    clear hO hB bT hxl
    gi_wp2
    refine ⟨by simp, .inl ⟨_, _, rfl, run_takeDeferred hK, ?_⟩⟩
    refine ⟨.slice A _ cp, ?_, _, rfl, HN.out.1, HN.out.2⟩
    simp [results, Try.results32, go_sem]
  case stop =>
    rintro D c pre W _ _ h _
    exact h.elim
set_option maxRecDepth 100000 in
set_option maxHeartbeats 8000000 in
theorem leastZeros_any (n g L cap : Nat) (xs : List Int) (w : World) (h1 : 1 ≤ n) (h2 : n ≤ 12) (hL : L ≤ 12) (hlc : L ≤ cap) (hr : ∀ i, i < xs.length → 0 ≤ xs.getD i 0 ∧ xs.getD i 0 < (n:Int)) (hS : Shows w g L xs) :
    Calls Try.prog 22 #[.agg #[.int .i64 (n:Int), .slice (some ⟨g, 0, none⟩) L cap]] w fun e w' => ∃ v, e = .returned v ∧ Below w.heap.size w w' ∧ IsZs w' w.heap.size v (leastL n (rowZ xs) xs.length) := by
  have hD := Duo.new w 40 (.int .i64 (n:Int)) (.slice (some ⟨g, 0, none⟩) L cap)
  have q0 := hD.cell0
  have q1 := hD.cell1
  have hB0 : Below w.heap.size w ((w.alloc (.cells #[.int .i64 (n:Int), .slice (some ⟨g, 0, none⟩) L cap] 40)).alloc (.cells #[.int .i64 (n:Int), .slice (some ⟨g, 0, none⟩) L cap] 40)) := ((Below.refl _ w).alloc (Nat.le_refl _) _).alloc (by simp) _
  have bZ0 := Duo.new (w.alloc (.cells #[.int .i64 (n:Int), .slice (some ⟨g, 0, none⟩) L cap] 40)) 40 (.int .i64 (n:Int)) (.slice (some ⟨g, 0, none⟩) L cap)
  simp only [World.size_alloc] at bZ0
  have HL := Lib.hid (leastOf_any n (w.heap.size + 1) g L cap xs _ h1 h2 hL hlc hr bZ0 (hS.belowAll hB0))
  have HB := Lib.hid hB0
  clear hD hS hB0 bZ0
  go_enter Try.func22, Try.ntmps22
  go_wp2_with (first
    | (go_at_call 33; refine (zeros_any n (.slice (some ⟨g, 0, none⟩) L cap) _ ⟨_, _, _, rfl⟩).mono ?_; rintro e w' ⟨rfl, rfl⟩)
    | (go_at_call 32; refine HL.out.mono ?_; rintro e w' ⟨v, rfl, hb, hI⟩; obtain ⟨A9, cap9, rfl, _⟩ := hI.slice))
  go_ret
  exact ⟨_, rfl, HB.out.trans (hb.mono HB.out.size), hI.base HB.out.size⟩
end Go.Proofs.Ytkdgbnjpjkhopaa
