/- Rounds: the model's search. -/
import Derived.Test.YtfgolkbafnfblaaRndG
namespace Go.Proofs.Ytfgolkbafnfblaa
open Go.RowKit Go.Shelf
set_option linter.unusedVariables false
attribute [local go_sem] Oper.semAt_some
/-- The list that a search tells. -/
def putF (xs : List Int) : Option (List Int) → List Int
  | some l => xs ++ l
  | none => []
/-- A list is appended to a list of one's own. -/
theorem wp_append_list {o : Oper} {act : Act} {K : Act → World → Prop} {Q : Exit → Act → World → Prop} (s x : Operand) (ho : o.op = .call { callee := .builtin .append, args := #[s, x], argTypes := #[23, 23] })
    (a : Value) (ys xs : List Int) (W : World) (N g cap b : Nat) (hs : act.eval s = a) (hx : act.eval x = .slice (some ⟨g, 0, none⟩) xs.length cap) (hO : IsInts W N a ys) (hX : IsInts W b (.slice (some ⟨g, 0, none⟩) xs.length cap) xs)
    (hl : ys.length + xs.length ≤ 1000) (hN : N ≤ W.heap.size)
    (h : ∀ (v' : Value) (w1 : World), IsInts w1 N v' (ys ++ xs) → (∀ (g len c : Nat) (zs : List Int) (N' : Nat), IsInts W N' (.slice (some ⟨g, 0, none⟩) len c) zs → g < N → IsInts w1 N' (.slice (some ⟨g, 0, none⟩) len c) zs) →
      (∀ (B : Nat) (w0 : World), B ≤ N → Below B w0 W → Below B w0 w1) → K (act.put o.dst v') w1) : o.wp Try.prog act W K Q := by
  obtain ⟨i0, hi, hz0, hz1, hz2⟩ := info_parts Try.infoQ
  have hc1 := World.ownsRow.cells hX (g := g) rfl
  have hc2 : ∀ u ∈ xs.map (Value.int .i64), u.oneCell' = true := by
    intro u hu
    obtain ⟨z, _, rfl⟩ := List.mem_map.1 hu
    rfl
  have hc3 : ys.length + xs.length ≤ maxLen := by unfold maxLen; omega
  have hbs : ∀ k, a.ownBlock = some k → N ≤ k := fun k hk => (World.ownsRow.lt hO k hk).1
  refine wp_append_own W s x 23 ho N 3 i0 (.int .i64 0) 1 8 Try.underlying23 hi hz0 hz1 hz2 rfl (by decide) a ys.length _ hs hO ⟨g, 0, none⟩ xs.length cap (xs.map (Value.int .i64)) hx (by simp) hc1 hc2 hc3 (by omega) hN fun v' w1 hown' hgrow hiff => ?_
  refine h v' w1 ?_ (fun g len c zs N' hy hg => ?_) (fun B w0 hB hb => ?_)
  · unfold IsInts
    rw [List.length_append, List.map_append]
    exact hown'
  · refine World.ownsRow.kept hy hgrow ?_
    cases ha : a.ownBlock with
    | none => exact .inr (by simp [Value.ownBlock])
    | some k =>
      refine .inr fun e => ?_
      have e1 : some g = some k := e
      injection e1 with e1
      have := hbs k ha
      omega
  · exact hb.grown hgrow (Nat.le_trans hB hN) (fun k hk => Nat.le_trans hB (hbs k hk))
/-- What a search answers. -/
def GoPost (n s m a met most b : Nat) (xs : List Int) (w : World) (e : Ending) (w' : World) : Prop :=
  ∃ sv, e = .returned (.tuple #[.int .i64 ((min (cntN n s m a met) most : Nat) : Int), sv]) ∧ Below w.heap.size w w' ∧ IsInts w' b sv (putF xs (firN n s m a met))
set_option maxHeartbeats 1000000 in
theorem l5Go_zero (n s a met most b g cap : Nat) (xs : List Int) (w : World) (h1 : 1 ≤ n) (h2 : n ≤ 12) (hs : s < 2 ^ n) (hl : xs.length = n) (ha : xs.getD (xs.length - 1) 0 = (a : Int)) (han : a < n) (hm : 1 ≤ most) (hm2 : most ≤ 100000)
    (hI : IsInts w b (.slice (some ⟨g, 0, none⟩) xs.length cap) xs) (hb : b ≤ w.heap.size) :
    Calls Try.prog 52 #[.int .i64 (n:Int), .int .i64 (s:Int), .slice (some ⟨g, 0, none⟩) xs.length cap, .int .i64 (met:Int), .int .i64 (most:Int)] w (GoPost n s 0 a met most b xs w) := by
  have hpw := pow_le n h2
  have c0 := hI.cell (i := xs.length - 1) (by omega)
  rw [ha] at c0
  have HI := Lib.hid hI
  have HR := Lib.hid (fun W => l1Rest_all n (0 - (a : Int)) W h1 h2 ⟨by omega, by omega⟩)
  have hrl := rest_lt n (0 - (a : Int)) h1
  have HC : Hid (cntN n s 0 a met = b2n (s.testBit (rest n (0 - (a : Int))))) := Lib.hid rfl
  have HF : Hid (firN n s 0 a met = if s.testBit (rest n (0 - (a : Int))) then some [] else none) := Lib.hid rfl
  have d1 : IntKind.i64.wrap (0 - (a : Int)) = 0 - (a : Int) := IntWalk.i64_in _ ⟨by omega, by omega⟩
  have d2 : wrap64 (0 - (a : Int)) = 0 - (a : Int) := IntWalk.wrap64_in _ ⟨by omega, by omega⟩
  have hbt := has_nat s (rest n (0 - (a : Int))) (by omega)
  have hneg : (0 : Int) - (a : Int) = -(a : Int) := by omega
  rw [hneg] at HR hrl HC HF d1 d2 hbt
  generalize rest n (-(a : Int)) = r at *
  clear hneg
  have hr64 : min r 64 = r := by omega
  have hJ : xs.length - 1 < xs.length := by omega
  rw [hl] at HI c0 hJ ⊢
  obtain ⟨J, hJe⟩ : ∃ J, n - 1 = J := ⟨_, rfl⟩
  rw [hJe] at c0 hJ
  have j1 : (n : Int) - 1 = (J : Int) := by omega
  have j2 : IntKind.i64.wrap ((n : Int) - 1) = (J : Int) := by rw [j1]; exact IntWalk.i64_in _ ⟨by omega, by omega⟩
  have j3 : wrap64 ((n : Int) - 1) = (J : Int) := by rw [j1]; exact IntWalk.wrap64_in _ ⟨by omega, by omega⟩
  have i1 : (0 : Int) ≤ (J : Int) := by omega
  have i2 : (J : Int) < (n : Int) := by omega
  have e1 : ((n : Int) == (n : Int)) = true := by simp
  clear hI ha hl hJe
  cases hbit : s.testBit r
  · rw [hbit] at hbt HC HF
    clear hbit
    go_enter Try.func52, Try.ntmps52
    go_wp2_with (go_at_call 45; refine (HR.out _).mono ?_; rintro e w' ⟨rfl, rfl⟩)
    go_ret2
    refine ⟨_, by rw [HC.out, show min (b2n false) most = 0 from Nat.zero_min _]; rfl, (Below.refl _ _).alloc (Nat.le_refl _) _, ?_⟩
    rw [HF.out]
    exact nil_made _ _ hb
  · rw [hbit] at hbt HC HF
    clear hbit
    go_enter Try.func52, Try.ntmps52
    go_wp2_with (go_at_call 45; refine (HR.out _).mono ?_; rintro e w' ⟨rfl, rfl⟩)
    go_ret2
    refine ⟨_, by rw [HC.out, show min (b2n true) most = 1 from Nat.min_eq_left hm]; rfl, Below.refl _ _, ?_⟩
    rw [HF.out]
    show IsInts _ _ _ (xs ++ [])
    rw [List.append_nil]
    exact HI.out
end Go.Proofs.Ytfgolkbafnfblaa
