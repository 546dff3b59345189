/- Drawing for chapter 11: one of some texts, terms. -/
import Derived.Test.YtecjhkpldcmlaaaDoorGM
import Derived.Test.YtecjhkpldcmlaaaDoorTrmI
namespace Go.Proofs.YtecjhkpldcmlaaaDoor
open Go.RowKit Go.Shelf
set_option linter.unusedVariables false
attribute [local go_sem] Oper.semAt_some
theorem kept_cellD {R : Nat} {W W' : World} (hA : Aside R W W') {g i : Nat} {v : Value} (hc : W.cell? ⟨g, i, none⟩ = some v) (hne : g ≠ R) : W'.cell? ⟨g, i, none⟩ = some v := by
  have hlt : g < W.heap.size := by
    by_cases h : g < W.heap.size
    · exact h
    · simp [World.cell?, show W.heap[g]? = none from Array.getElem?_eq_none (by omega)] at hc
  rw [World.cell?_of_block (hA.block g hlt hne)]; exact hc
theorem of_anyL (W : World) (B R p g m c L : Nat) (hRd : Reader W B R p) (hp : p ≤ 900) (hm1 : 1 ≤ m) (hm : m ≤ 9) (hc : ∀ i, i < m → ∃ s : ByteArray, W.cell? ⟨g, i, none⟩ = some (.string s) ∧ s.size ≤ L) (hne : g ≠ R) :
    Calls Tryd.prog 72 #[.pointer (some ⟨R, 0, none⟩), .slice (some ⟨g, 0, none⟩) m c] W fun e w' => ∃ s : ByteArray, e = .returned (.string s) ∧ s.size ≤ L ∧ Reader w' B R (p + 1) ∧ Aside R W w' := by
  have HC := Lib.hid hc
  clear hc
  go_enter Tryd.func72, Tryd.ntmps72
  go_wp2_with fail
  refine (draw_any W B R p (m : Int) hRd (by omega) (by omega) (by omega)).mono ?_
  rintro e w1 ⟨v, rfl, hv', hR1, hA1⟩
  have hv := hv' (by omega)
  clear hv'
  obtain ⟨s, hs, hz⟩ := HC.out v (by omega)
  have c1 := kept_cellD hA1 hs hne
  have i1 : (0 : Int) ≤ (v : Int) := by omega
  have HR1 := Lib.hid hR1
  have HA1 := Lib.hid hA1
  clear hR1 hA1 hs hRd
  go_wp2
  go_ret
  exact ⟨s, rfl, hz, HR1.out, HA1.out⟩
theorem cells_of (W : World) (l : List ByteArray) (L : Nat) (h : ∀ s ∈ l, s.size ≤ L) (i : Nat) (hi : i < l.length) : ∃ s : ByteArray, (W.alloc (.cells (l.map Value.string).toArray 9)).cell? ⟨W.heap.size, i, none⟩ = some (.string s) ∧ s.size ≤ L := by
  refine ⟨l[i], ?_, h _ (List.getElem_mem hi)⟩
  simp [hi]
theorem Aside.belowAllD {R : Nat} {W W' : World} (h : Below W.heap.size W W') : Aside R W W' := ⟨h.os, h.tape, h.output, h.size, fun k hk _ => h.block k hk⟩
theorem underD {W W' : World} {B R p h : Nat} (k : Reader W B R p) (hb : Below h W W') (hR : R < h) : Reader W' B R p := by
  obtain ⟨⟨A, len, cap, f, h1, h2, h3⟩, hB⟩ := k
  exact ⟨⟨A, len, cap, f, (hb.block R hR).trans h1, h2.below (hb.mono (by omega)), h3⟩, hB⟩
theorem drewD {W : World} {B R p : Nat} (h : Reader W B R p) : Reader W.drew B R p := by
  obtain ⟨⟨A, len, cap, f, h1, h2, h3⟩, hB⟩ := h
  exact ⟨⟨A, len, cap, f, h1, ⟨h2.byte, h2.cell⟩, h3⟩, hB⟩
theorem asideDrewD {R : Nat} {W W' : World} (h : Aside R W W') : Aside R W W'.drew := ⟨h.os, h.tape, h.output, h.size, h.block⟩
theorem oneD (v : Nat) (h : v ≤ 100000) : IntKind.i64.wrap (1 + (v : Int)) = ((v + 1 : Nat) : Int) ∧ wrap64 (1 + (v : Int)) = ((v + 1 : Nat) : Int) := ⟨by rw [IntWalk.i64_in _ (by omega)]; omega, by rw [IntWalk.wrap64_in _ (by omega)]; omega⟩
theorem sizeD (s t : ByteArray) : (s ++ t).size = s.size + t.size := by
  have h : (s ++ t).toList = s.toList ++ t.toList := by
    rw [ByteArray.toList_eq, ByteArray.toList_eq, ByteArray.toList_eq]
    cases s; cases t
    simp
  rw [← bytes_len, h, List.length_append, bytes_len, bytes_len]
/-- One of some texts that are listed on the spot. -/
theorem of_fresh (W : World) (B R p c L : Nat) (l : List ByteArray) (hRd : Reader W B R p) (hp : p ≤ 900) (hl1 : 1 ≤ l.length) (hl : l.length ≤ 9) (h : ∀ s ∈ l, s.size ≤ L) :
    Calls Tryd.prog 72 #[.pointer (some ⟨R, 0, none⟩), .slice (some ⟨W.heap.size, 0, none⟩) l.length c] (W.alloc (.cells (l.map Value.string).toArray 9)) fun e w' => ∃ s : ByteArray, e = .returned (.string s) ∧ s.size ≤ L ∧ Reader w' B R (p + 1) ∧ Aside R W w' := by
  have hlt := hRd.lt
  refine (of_anyL _ B R p W.heap.size l.length c L (underD hRd ((Below.refl _ W).alloc (Nat.le_refl _) _) hRd.lt) hp hl1 hl (fun i hi => cells_of W l L h i hi) (by omega)).mono ?_
  rintro e w' ⟨s, rfl, hs, hR, hA⟩
  exact ⟨s, rfl, hs, hR, (Aside.belowAllD ((Below.refl _ W).alloc (Nat.le_refl _) _)).trans hA⟩
theorem cat_le {a b : ByteArray} {i j k : Nat} (ha : a.size ≤ i) (hb : b.size ≤ j) (hk : i + j ≤ k) : (a ++ b).size ≤ k := by rw [sizeD]; omega
/-- A term of so many leaves. -/
def TermDrawn (W : World) (B R p m : Nat) (e : Ending) (w' : World) : Prop :=
  ∃ (s : ByteArray) (q : Nat), e = .returned (.string s) ∧ s.size + 5 ≤ 8 * m ∧ q + 7 ≤ p + 12 * m ∧ Reader w' B R q ∧ Aside R W w'
end Go.Proofs.YtecjhkpldcmlaaaDoor
