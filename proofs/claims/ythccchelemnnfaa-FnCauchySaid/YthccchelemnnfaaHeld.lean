/- A region that draws its order, in a round of a loop over a function: what is held of the world through it. -/
import Derived.Test.YthccchelemnnfaaFold
import Derived.Deep.RegionHeld3
namespace Go.Proofs.Ythccchelemnnfaa
open Go.RowKit Go.Shelf
set_option linter.unusedVariables false
section
variable {P : Program} {ops : Array Oper} {Q : Exit → Act → World → Prop} {md : Region.Mode} {S : World → Prop}
def noDefer (o : Oper) : Bool := match o.op with | .defer _ => false | _ => true
theorem noDefer_ne {o : Oper} (h : noDefer o = true) (c : Call) : o.op ≠ .defer c := fun e => by simp [noDefer, e] at h
theorem opIn_of_op {l n i : Nat} {K : Act → World → Prop} {a : Act} {w : World} (hd : ∀ (j : Nat) o, ops[j]? = some o → noDefer o = true) (hl : ¬ LetsOut Q)
    (h : wpOp P ops Q i K a w) : wpOpIn (Fence.wide.inRound l) n P ops Q i K a w := by
  unfold wpOpIn
  unfold wpOp at h
  split
  · simpa [*] using h
  · rename_i o ho
    simp only [ho] at h
    split
    · rename_i hw
      simp only [hw, if_true] at h
      rcases h with h | ⟨_, h⟩
      · refine ⟨fun _ _ => trivial, ?_⟩
        rw [show Oper.semAt (Fence.wide.inRound l).round a.eval o = execOp a.eval o from Oper.semAt_some l _ o (noDefer_ne (hd i o ho))]
        unfold Oper.wp at h
        generalize (execOp a.eval o).run P w = r at *
        cases r with
        | ok x w' =>
          cases x <;> first
            | exact h
            | exact False.elim h
            | exact ⟨fun hh => (by cases hh), CallsIn.inRound l (callsIn_wide.2 h)⟩
            | exact ⟨fun hh => (by cases hh), fun c cs _ => let ⟨v, w', r, s⟩ := h c cs; ⟨v, w', r, stepsIn_wide.2 s⟩⟩
        | halt x w' => cases x <;> exact h
      · exact absurd h hl
    · rename_i hw
      simp only [hw] at h
      exact ⟨fun _ _ => trivial, h⟩
theorem anyIn_of_any {l n : Nat} (hd : ∀ (j : Nat) o, ops[j]? = some o → noDefer o = true) (hl : ¬ LetsOut Q) :
    ∀ (fuel : Nat) (listed : Array Bool) (a : Act) (w : World), wpAny P md ops Q fuel listed a w → wpAnyIn (Fence.wide.inRound l) n P md ops Q fuel listed a w
  | 0, _, _, _, h => h
  | fuel + 1, _, _, _, h => ⟨h.1, fun i hi => opIn_of_op hd hl (wpOp_mono (fun a' w' h' => anyIn_of_any hd hl fuel _ a' w' h') (h.2 i hi))⟩
theorem all_ops {L : List Oper} (h : L.all noDefer = true) (j : Nat) (o : Oper) (hj : L.toArray[j]? = some o) : noDefer o = true := by
  have hj' : L[j]? = some o := by simpa using hj
  exact List.all_eq_true.1 h o (List.mem_of_getElem? hj')
theorem region_round {l n id : Nat} {L : List Oper} {a : Act} {w : World} (S : World → Prop) (hm : P.follows .mixedOrders = true) (hd : L.all noDefer = true) (hl : ¬ LetsOut Q)
    (hS : S w.drew) (h : S w.drew → wpAnyH P .any L.toArray Q S L.length (Array.replicate L.length false) a w.drew) :
    (Code.region id L.toArray true).wpIn (Fence.wide.inRound l) n P Q a w :=
  wpIn_region_any hm (anyIn_of_any (all_ops hd) hl _ _ _ _ (wpAny_of_held _ _ _ _ (by simpa using h hS)))
theorem take1 {L : List Oper} (i : Nat) {oi : Oper} {v : Value} {fuel : Nat} {listed : Array Bool} {a : Act} {w : World} (hi : L[i]? = some oi)
    (hs : Region.noSelect L.toArray = true) (hf : Region.free md L.toArray listed i = true) (hr : (Region.ready md L.toArray listed).contains i = true)
    (hQ : ∀ c a w, Q (.panic c) (a.put oi.dst v) w → Q (.panic c) a w) (hw : Region.wanted oi (yielded L.toArray a.tmps) = true)
    (hy : ∀ w, S w → (execOp a.eval oi).run P w = .ok (.value v) w) (hS : S w)
    (h : wpAnyH P md L.toArray Q S fuel (listed.setIfInBounds i true) (a.put oi.dst v) w) : wpAnyH P md L.toArray Q S (fuel + 1) listed a w :=
  wpAnyH_take (by simpa using hi) hs hf hr hQ (.inl ⟨hw, hy⟩) hS h
theorem step1 {L : List Oper} (i : Nat) {o : Oper} {fuel : Nat} {listed : Array Bool} {a : Act} {w : World} (hr : Region.ready md L.toArray listed = [i]) (hi : L[i]? = some o)
    (h : ∀ K' : Act → World → Prop, Shut (∀ a w, S w → wpAnyH P md L.toArray Q S fuel (listed.setIfInBounds i true) a w → K' a w) → if Region.wanted o (yielded L.toArray a.tmps) = true then Oper.wp P o a w K' Q else K' (a.put o.dst undef) w) :
    wpAnyH P md L.toArray Q S (fuel + 1) listed a w :=
  wpAnyH_ready hr (by simp) (AllReadyH.cons (by simpa using hi) (fun K hK => h K (fun a w hS hW => hK.out a w hS (fun _ => hW))) AllReadyH.nil)
theorem step2 {L : List Oper} (i j : Nat) {o p : Oper} {fuel : Nat} {listed : Array Bool} {a : Act} {w : World} (hr : Region.ready md L.toArray listed = [i, j]) (hi : L[i]? = some o) (hj : L[j]? = some p)
    (h : ∀ K' : Act → World → Prop, Shut (∀ a w, S w → wpAnyH P md L.toArray Q S fuel (listed.setIfInBounds i true) a w → K' a w) → if Region.wanted o (yielded L.toArray a.tmps) = true then Oper.wp P o a w K' Q else K' (a.put o.dst undef) w)
    (h' : ∀ K' : Act → World → Prop, Shut (∀ a w, S w → wpAnyH P md L.toArray Q S fuel (listed.setIfInBounds j true) a w → K' a w) → if Region.wanted p (yielded L.toArray a.tmps) = true then Oper.wp P p a w K' Q else K' (a.put p.dst undef) w) :
    wpAnyH P md L.toArray Q S (fuel + 1) listed a w :=
  wpAnyH_ready hr (by simp) (AllReadyH.cons (by simpa using hi) (fun K hK => h K (fun a w hS hW => hK.out a w hS (fun _ => hW)))
    (AllReadyH.cons (by simpa using hj) (fun K hK => h' K (fun a w hS hW => hK.out a w hS (fun _ => hW))) AllReadyH.nil))
theorem stop1 {L : List Oper} {fuel : Nat} {listed : Array Bool} {a : Act} {w : World} (hr : Region.ready md L.toArray listed = []) (h : Q .normal a w) : wpAnyH P md L.toArray Q S fuel listed a w :=
  wpAnyH_done hr h fuel
end
/-- W' is W with new blocks, and with block T written: nothing else that was there has turned. -/
structure Aside (T : Nat) (W W' : World) : Prop where
  os : W'.os = W.os
  tape : W'.tape = W.tape
  output : W'.output = W.output
  size : W.heap.size ≤ W'.heap.size
  block : ∀ k, k < W.heap.size → k ≠ T → W'.heap[k]? = W.heap[k]?
theorem Aside.start (T : Nat) (W : World) : Aside T W W.drew := ⟨rfl, rfl, rfl, Nat.le_refl _, fun _ _ _ => rfl⟩
theorem Aside.refl (T : Nat) (W : World) : Aside T W W := ⟨rfl, rfl, rfl, Nat.le_refl _, fun _ _ _ => rfl⟩
theorem Aside.call {T : Nat} {W W1 W2 : World} (h : Aside T W W1) (hb : Below W1.heap.size W1 W2) : Aside T W W2 :=
  ⟨hb.os.trans h.os, hb.tape.trans h.tape, hb.output.trans h.output, Nat.le_trans h.size hb.size, fun k hk hn => (hb.block k (Nat.lt_of_lt_of_le hk h.size)).trans (h.block k hk hn)⟩
theorem Aside.set {T : Nat} {W W1 : World} (h : Aside T W W1) (u : Value) : Aside T W (W1.setCell ⟨T, 0, none⟩ u) :=
  ⟨h.os, h.tape, h.output, by simpa [World.setCell] using h.size, fun k hk hn => (Below.heap_setCell W1 ⟨T, 0, none⟩ u k hn).trans (h.block k hk hn)⟩
theorem Aside.setAt {T : Nat} {W W1 : World} (h : Aside T W W1) (i : Nat) (u : Value) : Aside T W (W1.setCell ⟨T, i, none⟩ u) :=
  ⟨h.os, h.tape, h.output, by simpa [World.setCell] using h.size, fun k hk hn => (Below.heap_setCell W1 ⟨T, i, none⟩ u k hn).trans (h.block k hk hn)⟩
theorem Aside.others' {T : Nat} {W W' : World} (h : Aside T W W') {o : Obj} (hT : W.heap[T]? = some o) (hc : o.isCells = true) : KeepsOthers W W' :=
  ⟨h.size, fun k o' hk ho => by
    by_cases e : k = T
    · subst e
      rw [hT] at hk
      cases hk
      rw [hc] at ho; cases ho
    · exact (h.block k (Array.getElem?_eq_some_iff.1 hk).1 e).trans hk⟩
theorem ownFrom_kb {β : Type} {Bn m B : Nat} {w₀ : World} (hm : m ≤ w₀.heap.size) (hB : m ≤ B) : OwnFrom B (fun (_ : β) W => KB Bn m w₀ W) :=
  fun s W W' row h hg hr => ⟨fun t v hb => (h.box t v hb).kept hg (fun e => by
      have hx := h.box t v hb
      obtain ⟨_, o, ho, hc⟩ := hr _ e.symm
      have hx' : W.heap[Bn]? = some (.cells #[v] t (0, 0)) := hx
      rw [hx'] at ho; cases ho; simp [Obj.isCells] at hc),
    ownFrom_below (β := Unit) hm hB () W W' row h.below hg hr⟩
theorem Aside.box {T : Nat} {W W' : World} (h : Aside T W W') {B : Nat} {t : TypeId} {v : Value} (hB : Boxed W B t v) (hn : B ≠ T) : Boxed W' B t v := (h.block B hB.lt hn).trans hB
theorem Aside.others {T : Nat} {W W' : World} (h : Aside T W W') {t : TypeId} {v : Value} (hT : Boxed W T t v) : KeepsOthers W W' :=
  ⟨h.size, fun k o hk ho => by
    by_cases e : k = T
    · subst e
      have hT' : W.heap[k]? = some (.cells #[v] t (0, 0)) := hT
      rw [hT'] at hk
      cases hk
      simp [Obj.isCells] at ho
    · exact (h.block k (Array.getElem?_eq_some_iff.1 hk).1 e).trans hk⟩
theorem Aside.below {T : Nat} {W W' : World} (h : Aside T W W') {m : Nat} (h1 : m ≤ T) (h2 : m ≤ W.heap.size) : Below m W W' :=
  ⟨h.os, h.tape, h.output, h.size, fun k hk => h.block k (by omega) (by omega)⟩
theorem Aside.kb {T : Nat} {W W' : World} (h : Aside T W W') {Bn m : Nat} (hn : Bn ≠ T) (h1 : m ≤ T) (h2 : m ≤ W.heap.size) : KB Bn m W W' :=
  ⟨fun t v hb => h.box hb hn, h.below h1 h2⟩
end Go.Proofs.Ythccchelemnnfaa
