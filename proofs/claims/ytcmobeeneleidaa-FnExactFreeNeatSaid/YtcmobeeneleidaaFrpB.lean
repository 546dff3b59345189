/- Free sets, the program's side: the iterator over the sets of which something holds. -/
import Derived.Test.YtcmobeeneleidaaFrpA
namespace Go.Proofs.Ytcmobeeneleidaa
open Go.RowKit Go.Shelf
set_option linter.unusedVariables false
attribute [local go_sem] Oper.semAt_some
/-- The sets that have come when k is asked next. -/
def comeP (p : Nat → Bool) (N : Nat) : Nat → List (Fin N)
  | 0 => []
  | k + 1 => if h : k < N then (if p k then comeP p N k ++ [⟨k, h⟩] else comeP p N k) else comeP p N k
theorem comeP_yes {p : Nat → Bool} {N k : Nat} (h : k < N) (hb : p k = true) : comeP p N (k + 1) = comeP p N k ++ [⟨k, h⟩] := by simp [comeP, h, hb]
theorem comeP_no {p : Nat → Bool} {N k : Nat} (hb : p k = false) : comeP p N (k + 1) = comeP p N k := by simp [comeP, hb]
theorem comeP_len (p : Nat → Bool) (N k : Nat) : (comeP p N k).length ≤ k := by
  induction k with
  | zero => simp [comeP]
  | succ k ih =>
    unfold comeP
    split
    · split
      · simp; omega
      · omega
    · omega
/-- A state turned by f at each set that has come. -/
def foldP {α : Type} (f : α → Nat → α) (a : α) (pre : List Nat) : α := pre.foldl f a
theorem foldP_snoc {α : Type} (f : α → Nat → α) (a : α) {N : Nat} (pre : List (Fin N)) (x : Fin N) : foldP f a (vals (pre ++ [x])) = f (foldP f a (vals pre)) x.val := by simp [foldP, vals_snoc]
/-- What a loop over all sets makes of it. -/
def runP {α : Type} (f : α → Nat → α) (p : Nat → Bool) (a : α) : Nat → α
  | 0 => a
  | k + 1 => if p k then f (runP f p a k) k else runP f p a k
theorem foldP_come {α : Type} (f : α → Nat → α) (a : α) (p : Nat → Bool) (N k : Nat) (hk : k ≤ N) : foldP f a (vals (comeP p N k)) = runP f p a k := by
  induction k with
  | zero => rfl
  | succ k ih =>
    have hlt : k < N := by omega
    cases hb : p k
    · rw [comeP_no hb, ih (by omega)]
      simp [runP, hb]
    · rw [comeP_yes hlt hb, foldP_snoc, ih (by omega)]
      simp [runP, hb]
/-- Both boxes are kept, and all below n₀. -/
def KS (R H n₀ : Nat) (W W' : World) : Prop := KB R n₀ W W' ∧ KB H n₀ W W'
theorem KS.trans {R H n₀ : Nat} {A B C : World} (h : KS R H n₀ A B) (k : KS R H n₀ B C) : KS R H n₀ A C := ⟨h.1.trans k.1, h.2.trans k.2⟩
theorem KS.put {R H n₀ : Nat} {w : World} (hn : n₀ ≤ w.heap.size) (W : World) (l : Nat) (o o' : Obj) (hl : w.heap.size ≤ l) (h : W.heap[l]? = some o) (hc : o.isCells = false) (hw : o.isWalk = false) : KS R H n₀ W (W.putObj l o') :=
  ⟨KB.put hn W l o o' hl h hc hw, KB.put hn W l o o' hl h hc hw⟩
theorem grown_below {W W' : World} (h : Below W.heap.size W W') : W.grownBy W' none := ⟨h.os, h.tape, h.output, h.size, fun k hk _ => h.block k hk⟩
theorem abides_below {β : Type} {B : Nat} {J : β → World → Prop} (hJ : AbidesFrom B J) {s : β} {W W' : World} (h : J s W) (hb : Below W.heap.size W W') : J s W' :=
  hJ s W W' none h (grown_below hb) (fun r e => by cases e)
theorem setsThat_any (n g : Nat) (b l : Array Value) (w : World) :
    Calls Try.prog 50 #[.agg #[.int .i64 (n:Int)], .func (.func g) b l] w fun e w' => e = .returned (.func (.func 62) #[] #[.pointer (some ⟨w.heap.size, 0, none⟩), .pointer (some ⟨w.heap.size + 1, 0, none⟩)]) ∧ w' = (w.alloc (.cells #[.int .i64 (n:Int)] 36)).alloc (.cells #[.func (.func g) b l] 56) := by
  go_enter Try.func50, Try.ntmps50
  go_wp2
  go_ret
  exact ⟨rfl, rfl⟩
end Go.Proofs.Ytcmobeeneleidaa
