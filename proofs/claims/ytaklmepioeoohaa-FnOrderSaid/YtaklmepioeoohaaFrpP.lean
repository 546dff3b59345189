/- Fair colours, the program's side: colours are tried in place. Written by gen51.py. -/
import Derived.Test.YtaklmepioeoohaaGJ
import Derived.Test.YtaklmepioeoohaaGI
import Derived.Deep.LoopGhost
import Derived.WalkMore
namespace Go.Proofs.Ytaklmepioeoohaa
open Go.RowKit Go.Shelf
set_option linter.unusedVariables false
theorem Aside.alloc {T : Nat} {W W1 : World} (h : Aside T W W1) (o : Obj) : Aside T W (W1.alloc o) := h.call ((Below.refl _ _).alloc (Nat.le_refl _) o)
theorem Aside.drew {T : Nat} {W W1 : World} (h : Aside T W W1) : Aside T W W1.drew := ⟨h.os, h.tape, h.output, h.size, h.block⟩
theorem Aside.grown {T : Nat} {W W1 W2 : World} (h : Aside T W W1) (hg : W1.grownBy W2 (some T)) : Aside T W W2 :=
  ⟨hg.os.trans h.os, hg.tape.trans h.tape, hg.output.trans h.output, Nat.le_trans h.size hg.size, fun k hk hn => (hg.block k (Nat.lt_of_lt_of_le hk h.size) (fun e => hn (by injection e))).trans (h.block k hk hn)⟩
theorem Aside.trans {T : Nat} {A B C : World} (h : Aside T A B) (h' : Aside T B C) : Aside T A C :=
  ⟨h'.os.trans h.os, h'.tape.trans h.tape, h'.output.trans h.output, Nat.le_trans h.size h'.size, fun k hk hn => (h'.block k (Nat.lt_of_lt_of_le hk h.size) hn).trans (h.block k hk hn)⟩
theorem duo_aside {T : Nat} {W W' : World} {B : Nat} {t : TypeId} {u v : Value} (h : Duo W B t u v) (ha : Aside T W W') (hn : B ≠ T) : Duo W' B t u v := (ha.block B h.lt hn).trans h
/-- A list is there where a longer one is. -/
theorem ints_init {W : World} {b g cap L : Nat} {xs : List Int} {r : Int} (hL : xs.length = L) (h : IsInts W b (.slice (some ⟨g, 0, none⟩) (L + 1) cap) (xs ++ [r])) : IsInts W b (.slice (some ⟨g, 0, none⟩) L cap) xs := by
  subst hL
  obtain ⟨h1, h2⟩ := h
  refine ⟨by simp, ?_⟩
  rcases h2 with ⟨h3, h4⟩ | ⟨g', cap', cur, h3, h4, h5, h6, h7, h8, h9⟩
  · simp at h4
  · rw [List.length_append, List.length_singleton] at h3 h6
    cases h3
    refine .inr ⟨g, cap, cur, rfl, h4, h5, by omega, h7, h8, ?_⟩
    have e := congrArg (List.take xs.length) h9
    rw [List.take_take, List.length_append, List.length_singleton, List.map_append, List.take_append_of_le_length (by simp)] at e
    rw [show min xs.length ((xs.length + 1) * 1) = xs.length * 1 by omega] at e
    rw [e]
    exact List.take_of_length_le (by simp)
theorem wp_append_fit {o : Oper} {act : Act} {K : Act → World → Prop} {Q : Exit → Act → World → Prop} (s x : Operand) (ho : o.op = .call { callee := .builtin .append, args := #[s, x], argTypes := #[31, 31] })
    (g cap L : Nat) (xs : List Int) (r : Int) (W : World) (N : Nat) (hL : xs.length = L) (hs : act.eval s = .slice (some ⟨g, 0, none⟩) L cap) (hx : act.eval x = .slice (some ⟨W.heap.size, 0, none⟩) 1 1)
    (hO : IsInts W N (.slice (some ⟨g, 0, none⟩) L cap) xs) (hroom : L + 1 ≤ cap)
    (h : ∀ (w1 : World), IsInts w1 N (.slice (some ⟨g, 0, none⟩) (L + 1) cap) (xs ++ [r]) → (W.alloc (.cells #[.int .i64 r] 3)).grownBy w1 (some g) → K (act.put o.dst (.slice (some ⟨g, 0, none⟩) (L + 1) cap)) w1) : o.wp Try.prog act (W.alloc (.cells #[.int .i64 r] 3)) K Q := by
  subst hL
  obtain ⟨i0, hi, hz0, hz1, hz2⟩ := info_parts Try.infoQ
  have hO2 : (W.alloc (.cells #[.int .i64 r] 3)).ownsRow N 3 1 (.slice (some ⟨g, 0, none⟩) xs.length cap) xs.length (xs.map (Value.int .i64)) := World.ownsRow.alloc hO _
  have hc1 : ∀ j u, [Value.int .i64 r][j]? = some u → (W.alloc (.cells #[.int .i64 r] 3)).cell? ((⟨W.heap.size, 0, none⟩ : Addr).add j) = some u := by
    intro j u hj
    cases j with
    | zero => simp at hj; subst hj; simp [Addr.add]
    | succ j => simp at hj
  have hc2 : ∀ u ∈ [Value.int .i64 r], u.oneCell' = true := by intro u hu; simp at hu; subst hu; rfl
  obtain ⟨w1, hr, h2, h3⟩ := run_append_fits (P := Try.prog) (W.alloc (.cells #[.int .i64 r] 3)) N 31 o.type 3 i0 1 Try.underlying31 hi hz1 g xs.length cap _ hO2 ⟨W.heap.size, 0, none⟩ 1 1 [.int .i64 r] rfl hc1 hc2 hroom
  unfold Oper.wp execOp
  simp only [ho, resolve, invoke, builtin, Sem.run_bind, Sem.run_pure, Result.andThen_ok, List.map_toArray, List.map_cons, List.map_nil, hs, hx, hr]
  exact h w1 (snoc_ints h2) h3
theorem ok_down (q : Nat) (xs : List Int) (c : Nat) {j : Nat} (h : okTo q xs c j = false) : ∀ d, okTo q xs c (j + d) = false
  | 0 => h
  | d + 1 => by
    show (okTo q xs c (j + d) && _) = false
    rw [ok_down q xs c h d, Bool.false_and]
end Go.Proofs.Ytaklmepioeoohaa
