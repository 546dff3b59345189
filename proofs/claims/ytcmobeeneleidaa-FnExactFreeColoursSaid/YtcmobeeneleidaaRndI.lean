/- Rounds: the model's search goes on. -/
import Derived.Test.YtcmobeeneleidaaRndH
import Derived.Test.YtcmobeeneleidaaGA
namespace Go.Proofs.Ytcmobeeneleidaa
open Go.RowKit Go.Shelf
set_option linter.unusedVariables false
attribute [local go_sem] Oper.semAt_some
/-- What the places below v have brought. -/
def goneN (n s m a met most v : Nat) : Nat := min (sumTo (brN n s m a met) v) most
theorem gone_no (n s m a met most v : Nat) (h : brN n s m a met v = 0) : goneN n s m a met most (v + 1) = goneN n s m a met most v := by
  unfold goneN
  show min (sumTo _ v + brN n s m a met v) most = _
  rw [h, Nat.add_zero]
theorem gone_yes (n s m a met most v : Nat) (h : goneN n s m a met most v < most) : goneN n s m a met most v + min (brN n s m a met v) (most - goneN n s m a met most v) = goneN n s m a met most (v + 1) := by
  unfold goneN at *
  show _ = min (sumTo _ v + brN n s m a met v) most
  omega
theorem gone_end (n s m a met most v : Nat) (hv : v ≤ n) (h : n ≤ v ∨ most ≤ goneN n s m a met most v) : goneN n s m a met most v = min (cntN n s (m + 1) a met) most := by
  rw [cnt_succ]
  rcases h with h | h
  · obtain rfl : v = n := by omega
    rfl
  · unfold goneN at *
    have := sum_more (brN n s m a met) v n hv
    omega
theorem gone_one (n s m a met most : Nat) : goneN n s m a met most 1 = 0 := by
  unfold goneN
  have : brN n s m a met 0 = 0 := rfl
  show min (0 + brN n s m a met 0) most = 0
  rw [this]
  exact Nat.zero_min _
theorem fst_one (n s m a met : Nat) : fstTo (bfN n s m a met) 1 = none := rfl
theorem fst_same (n s m a met v : Nat) (h : brN n s m a met v = 0) : fstTo (bfN n s m a met) (v + 1) = fstTo (bfN n s m a met) v := by
  show (match fstTo (bfN n s m a met) v with | some l => some l | none => bfN n s m a met v) = _
  rw [(br_none n s m a met v).2 h]
  cases fstTo (bfN n s m a met) v <;> rfl
theorem gone_zero (n s m a met most v : Nat) (hm : 1 ≤ most) : goneN n s m a met most v = 0 ↔ fstTo (bfN n s m a met) v = none := by
  rw [fst_none (bfN n s m a met) (brN n s m a met) (br_none n s m a met)]
  unfold goneN
  omega
theorem fst_end (n s m a met most v : Nat) (hv : v ≤ n) (hm : 1 ≤ most) (h : n ≤ v ∨ most ≤ goneN n s m a met most v) : fstTo (bfN n s m a met) v = firN n s (m + 1) a met := by
  rw [fir_succ]
  rcases h with h | h
  · obtain rfl : v = n := by omega
    rfl
  · cases hf : fstTo (bfN n s m a met) v with
    | none => have := (gone_zero n s m a met most v hm).2 hf; omega
    | some l => exact (fst_here _ v n hv l hf).symm
/-- What a branch tells. -/
theorem bf_put (n s m a met v : Nat) (xs : List Int) (h : mayN n s a met v = true) : putF xs (bfN n s m a met v) = putF (xs ++ [(v : Int)]) (firN n s m v (met ||| 2 ^ v)) ∧ brN n s m a met v = cntN n s m v (met ||| 2 ^ v) := by
  unfold bfN brN
  rw [if_pos h, if_pos h]
  refine ⟨?_, rfl⟩
  cases firN n s m v (met ||| 2 ^ v) with
  | none => rfl
  | some l => show xs ++ ((v : Int) :: l) = (xs ++ [(v : Int)]) ++ l; simp
/-- One number alone, written out. -/
theorem lit_one (W : World) (N : Nat) (r : Int) (h : N ≤ W.heap.size) : IsInts (W.alloc (.cells #[.int .i64 r] 3)) N (.slice (some ⟨W.heap.size, 0, none⟩) 1 1) [r] :=
  ⟨rfl, .inr ⟨W.heap.size, 1, #[.int .i64 r], rfl, h, heap_alloc_new W _, Nat.le_refl _, by simp [maxLen], rfl, rfl⟩⟩
theorem apart_gh {g h l c l' c' : Nat} (hne : g ≠ h) : (Value.slice (some ⟨g, 0, none⟩) l c).ownBlock = none ∨ (Value.slice (some ⟨g, 0, none⟩) l c).ownBlock ≠ (Value.slice (some ⟨h, 0, none⟩) l' c').ownBlock := .inr (fun e => by
  have e2 : some g = some h := e
  injection e2 with e2
  exact hne e2)
theorem far_g {g N l c : Nat} (h : g < N) : ∀ k, (Value.slice (some ⟨g, 0, none⟩) l c).ownBlock = some k → k < N := fun k hk => by
  have e2 : some g = some k := hk
  injection e2 with e2
  omega
theorem far_block {v : Value} {N h : Nat} (hv : ∀ k, v.ownBlock = some k → k < N) (hh : N ≤ h) : v.ownBlock = none ∨ v.ownBlock ≠ some h := by
  cases e : v.ownBlock with
  | none => exact .inl rfl
  | some k =>
    refine .inr fun e2 => ?_
    injection e2 with e2
    have := hv k e
    omega
theorem far_block2 {v a : Value} {N : Nat} (hv : ∀ k, v.ownBlock = some k → k < N) (ha : ∀ k, a.ownBlock = some k → N ≤ k) : v.ownBlock = none ∨ v.ownBlock ≠ a.ownBlock := by
  cases e : v.ownBlock with
  | none => exact .inl rfl
  | some k =>
    refine .inr fun e2 => ?_
    have h1 := hv k e
    have h2 := ha k e2.symm
    omega
/-- A list is appended to a list of one's own; all else that is apart from it stays. -/
theorem wp_append_any {o : Oper} {act : Act} {K : Act → World → Prop} {Q : Exit → Act → World → Prop} (s x : Operand) (ho : o.op = .call { callee := .builtin .append, args := #[s, x], argTypes := #[27, 27] })
    (a : Value) (ys xs : List Int) (W : World) (N g cap b : Nat) (hs : act.eval s = a) (hx : act.eval x = .slice (some ⟨g, 0, none⟩) xs.length cap) (hO : IsInts W N a ys) (hX : IsInts W b (.slice (some ⟨g, 0, none⟩) xs.length cap) xs)
    (hl : ys.length + xs.length ≤ 1000) (hN : N ≤ W.heap.size)
    (h : ∀ (v' : Value) (w1 : World), IsInts w1 N v' (ys ++ xs) → (∀ (v : Value) (zs : List Int) (N' : Nat), IsInts W N' v zs → (v.ownBlock = none ∨ v.ownBlock ≠ a.ownBlock) → IsInts w1 N' v zs) →
      (∀ (B : Nat) (w0 : World), B ≤ N → Below B w0 W → Below B w0 w1) → W.heap.size ≤ w1.heap.size → K (act.put o.dst v') w1) : o.wp Try.prog act W K Q := by
  obtain ⟨i0, hi, hz0, hz1, hz2⟩ := info_parts Try.infoQ
  have hc1 := World.ownsRow.cells hX (g := g) rfl
  have hc2 : ∀ u ∈ xs.map (Value.int .i64), u.oneCell' = true := by
    intro u hu
    obtain ⟨z, _, rfl⟩ := List.mem_map.1 hu
    rfl
  have hc3 : ys.length + xs.length ≤ maxLen := by unfold maxLen; omega
  have hbs : ∀ k, a.ownBlock = some k → N ≤ k := fun k hk => (World.ownsRow.lt hO k hk).1
  refine wp_append_own W s x 27 ho N 3 i0 (.int .i64 0) 1 8 Try.underlying27 hi hz0 hz1 hz2 rfl (by decide) a ys.length _ hs hO ⟨g, 0, none⟩ xs.length cap (xs.map (Value.int .i64)) hx (by simp) hc1 hc2 hc3 (by omega) hN fun v' w1 hown' hgrow hiff => ?_
  refine h v' w1 ?_ (fun v zs N' hy hg => World.ownsRow.kept hy hgrow hg) (fun B w0 hB hb => hb.grown hgrow (Nat.le_trans hB hN) (fun k hk => Nat.le_trans hB (hbs k hk))) hgrow.size
  unfold IsInts
  rw [List.length_append, List.map_append]
  exact hown'
/-- What the first list becomes. -/
theorem fst_case (n s m a met most v c : Nat) (xs : List Int) (hm : 1 ≤ most) (hc : goneN n s m a met most v = c) (hmay : mayN n s a met v = true) (hcm : c < most) :
    ((c = 0 ∧ 0 < min (brN n s m a met v) (most - c)) → putF xs (fstTo (bfN n s m a met) (v + 1)) = putF (xs ++ [(v : Int)]) (firN n s m v (met ||| 2 ^ v))) ∧
    (¬ (c = 0 ∧ 0 < min (brN n s m a met v) (most - c)) → putF xs (fstTo (bfN n s m a met) (v + 1)) = putF xs (fstTo (bfN n s m a met) v)) := by
  obtain ⟨b1, b2⟩ := bf_put n s m a met v xs hmay
  have hz := gone_zero n s m a met most v hm
  rw [hc] at hz
  constructor
  · rintro ⟨h0, hk⟩
    rw [fst_new _ _ (hz.1 h0), b1]
  · intro h
    by_cases h0 : c = 0
    · have hq : brN n s m a met v = 0 := by
        refine Decidable.byContradiction fun hq => h ⟨h0, ?_⟩
        omega
      rw [fst_same n s m a met v hq]
    · cases hf : fstTo (bfN n s m a met) v with
      | none => exact absurd (hz.2 hf) h0
      | some l => rw [fst_here _ v (v + 1) (by omega) l hf]
end Go.Proofs.Ytcmobeeneleidaa
