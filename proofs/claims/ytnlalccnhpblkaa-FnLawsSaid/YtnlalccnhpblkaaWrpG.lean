/- Words, the program's side: words sorted, and all words of which something holds. -/
import Derived.Test.YtnlalccnhpblkaaGS
import Derived.Shelf.SlSortCmp.NoneTotal
namespace Go.Proofs.Ytnlalccnhpblkaa
open Go.RowKit Go.Shelf
set_option linter.unusedVariables false
attribute [local go_sem] Oper.semAt_some
def bd (z : Int) : Int := if z.natAbs ≤ 100 then z else 0
theorem bd_le (z : Int) : (bd z).natAbs ≤ 100 := by unfold bd; split <;> simp_all
theorem bd_id {z : Int} (h : z.natAbs ≤ 100) : bd z = z := if_pos h
/-- A word as the sort sees it. -/
def encW (cs : List Int) : List Value := [.int .i64 (bd (cO cs 0)), .int .i64 (bd (cO cs 1)), .int .i64 (bd (cO cs 2))]
def okL (F : List (List Int)) : Prop := ∀ cs ∈ F, ∀ i, (cO cs i).natAbs ≤ 100
theorem enc_wC {cs : List Int} (h : ∀ i, (cO cs i).natAbs ≤ 100) : encW cs = wC cs := by unfold encW wC; rw [bd_id (h 0), bd_id (h 1), bd_id (h 2)]
theorem enc_at (cs : List Int) (j : Nat) (hj : j < 3) (h : ∀ i, (cO cs i).natAbs ≤ 100) : (encW cs)[j]! = .int .i64 (cO cs j) := by
  rw [enc_wC h]
  rcases (show j = 0 ∨ j = 1 ∨ j = 2 by omega) with rfl | rfl | rfl <;> rfl
theorem arr_getD (F : List (List Int)) (i : Nat) (hi : i < F.length) : F.toArray[i]! = F.getD i [] := by
  rw [getElem!_pos F.toArray i (by simpa using hi), List.getElem_toArray, List.getD_eq_getElem?_getD, List.getElem?_eq_getElem hi]
  rfl
theorem getD_mem' (F : List (List Int)) (i : Nat) (hi : i < F.length) : F.getD i [] ∈ F := by
  rw [List.getD_eq_getElem?_getD, List.getElem?_eq_getElem hi]
  exact List.getElem_mem hi
theorem flat_at (F : List (List Int)) (hF : okL F) (j : Nat) (hj : j < F.length * 3) : (Go.Sort.flatK encW 3 F.toArray)[j]! = .int .i64 (cO (F.getD (j / 3) []) (j % 3)) := by
  have hi : j / 3 < F.length := by omega
  rw [Go.Sort.get_flatK encW 3 F.toArray j (by simpa using hj), arr_getD F _ hi]
  exact enc_at _ _ (Nat.mod_lt _ (by omega)) (hF _ (getD_mem' F _ hi))
theorem holds_words {w : World} {g cap : Nat} {F : List (List Int)} (h : IsWords w 0 (.slice (some ⟨g, 0, none⟩) F.length cap) F) (hF : okL F) : Go.Sort.HoldsK encW 3 w g 0 F.toArray := by
  intro j hj
  have hj' : j < F.length * 3 := by simpa using hj
  have hc := h.cells (i := j / 3) (by omega) (j % 3) (Nat.mod_lt _ (by omega))
  have e : j / 3 * 3 + j % 3 = j := by omega
  rw [e] at hc
  obtain ⟨cur, hcur⟩ := h.type rfl
  rw [flat_at F hF j hj', Nat.zero_add]
  exact ⟨hc, by simp [World.frozen?, hcur]⟩
theorem words_put {w : World} {g cap q : Nat} {F F' : List (List Int)} (h : IsWords w 0 (.slice (some ⟨g, 0, none⟩) F.length cap) F) (hl : F'.length = F.length) (hF : okL F') :
    IsWords (Go.Sort.putRowK encW 3 (Go.Sort.ahead w q) g 0 F'.toArray) 0 (.slice (some ⟨g, 0, none⟩) F.length cap) F' := by
  rcases h.2 with ⟨e0, _⟩ | ⟨g', cap', cur, e0, hb, hg, hn, hm, hs, ht⟩
  · cases e0
  · injection e0 with e1 _ e3
    injection e1 with e1
    injection e1 with e1
    subst e1; subst e3
    unfold IsWords
    rw [hl]
    refine ⟨by rw [wordCells_len, hl], .inr ⟨g, cap, Go.Sort.putCells id 0 (Go.Sort.flatK encW 3 F'.toArray) cur, rfl, hb, ?_, hn, hm, by simpa [Go.Sort.putCells] using hs, ?_⟩⟩
    · simp [Go.Sort.putRowK, Go.Sort.putRow, Go.Sort.mapBlock, Go.Sort.ahead, Array.getElem?_modify, hg, Go.Sort.onCells]
    · apply List.ext_getElem?
      intro j
      rw [List.getElem?_take, Array.getElem?_toList]
      by_cases hj : j < F.length * 3
      · have hjc : j < cur.size := by rw [hs]; exact Nat.lt_of_lt_of_le hj (Nat.mul_le_mul_right _ hn)
        have hj' : j < F'.length * 3 := by omega
        have hat := wordCells_at F' (j / 3) (by omega) (j % 3) (Nat.mod_lt _ (by omega))
        rw [show j / 3 * 3 + j % 3 = j by omega] at hat
        rw [if_pos hj, hat]
        unfold Go.Sort.putCells
        rw [Array.getElem?_mapIdx, Array.getElem?_eq_getElem hjc, Option.map_some, if_pos (by simp; omega), Nat.sub_zero, flat_at F' hF j hj']
        rfl
      · rw [if_neg hj, List.getElem?_eq_none (by rw [wordCells_len]; omega)]
theorem kept_put {w : World} {bx g q : Nat} (D : Array (List Int)) (os : Array Obj) : KeptB bx (some g) w (sortWorldK encW 3 w g 0 q D os) :=
  ⟨rfl, rfl, rfl, by simp [sortWorldK, Go.Sort.grow, Go.Sort.putRowK, Go.Sort.putRow, Go.Sort.mapBlock, Go.Sort.ahead], fun k hk _ h3 => by
    have hne : g ≠ k := fun e => h3 (by rw [e])
    have hk2 : k < (Go.Sort.putRowK encW 3 (Go.Sort.ahead w q) g 0 D).heap.size := by simpa [Go.Sort.putRowK, Go.Sort.putRow, Go.Sort.mapBlock, Go.Sort.ahead] using hk
    show ((Go.Sort.putRowK encW 3 (Go.Sort.ahead w q) g 0 D).heap ++ os)[k]? = _
    rw [Array.getElem?_append_left hk2]
    simp [Go.Sort.putRowK, Go.Sort.putRow, Go.Sort.mapBlock, Go.Sort.ahead, Array.getElem?_modify, hne]⟩
/-- What a sort of words does. -/
def SortPost (cf : List Int → List Int → Int) (W : World) (v : Value) (F : List (List Int)) (e : Ending) (w' : World) : Prop :=
  e = .returned (.tuple #[]) ∧ ∃ F' : List (List Int), IsWords w' 0 v F' ∧ F'.Perm F ∧ (∀ i j, i < j → j < F'.length → ltOf cf (F'.getD j []) (F'.getD i []) = false) ∧ ∀ bx, KeptB bx v.ownBlock W w'
theorem sort_any (cf : List Int → List Int → Int) (gf : Nat) (eg : ∀ args w, (callFunc gf args).run Try.prog w = .ok (.enter gf args) w) (hO : Go.Sort.SWO (ltOf cf))
    (hc : ∀ (x y : List Int) (W : World), Calls Try.prog gf #[.agg (encW x).toArray, .agg (encW y).toArray] W fun e w' => e = .returned (.int .i64 (cf x y)) ∧ Grw W w')
    (v : Value) (F : List (List Int)) (W : World) (hW : IsWords W 0 v F) (hF : okL F) (hl : F.length ≤ 100000) :
    Calls Try.prog 84 #[v, .func (.func gf) #[] #[]] W (SortPost cf W v F) := by
  rcases hW.shape with ⟨rfl, rfl⟩ | ⟨g, cap, rfl, hg1, hg2⟩
  · refine (show Calls Try.prog 84 #[.slice none 0 0, .func (.func gf) #[] #[]] W _ from AnyF.slices_SortFunc_none Try.sortWord none 0 (.func (.func gf) #[] #[]) W).mono ?_
    rintro e w' ⟨rfl, rfl⟩
    exact ⟨rfl, [], hW, List.Perm.refl _, fun i j h1 h2 => absurd h2 (Nat.not_lt_zero _), fun bx => KeptB.refl _ _ _⟩
  · have hcon := AnyQ.slices_SortFunc Try.sortWord 3 Try.isAgg52 Try.sizeOf52 encW (fun _ => rfl) (fun x u hu => by simp [encW] at hu; rcases hu with rfl | rfl | rfl <;> rfl) cf hO gf #[] g 0 cap F.toArray W eg (fun m os dk hs x y => hc x y _) (holds_words hW hF) hg2 (by simp; omega)
    refine (show Calls Try.prog 84 #[.slice (some ⟨g, 0, none⟩) F.length cap, .func (.func gf) #[] #[]] W _ from hcon).mono ?_
    rintro e w' ⟨rfl, d', q, os, hp, hs, rfl⟩
    obtain ⟨F', rfl⟩ : ∃ F' : List (List Int), d' = F'.toArray := ⟨d'.toList, by simp⟩
    have hsz : F'.length = F.length := by simpa using hp.1
    have hperm : F'.Perm F := by
      have h := hp.2.2
      have e0 : F.toArray.size = F.length := by simp
      have ex : ∀ (G : List (List Int)), (G.toArray.extract 0 G.length).toList = G := fun G => by
        rw [List.extract_toArray, List.toList_toArray]
        simp [List.extract]
      rw [e0, ex F, ← hsz, ex F'] at h
      exact h
    have hF' : okL F' := fun cs hcs => hF cs (hperm.mem_iff.1 hcs)
    refine ⟨rfl, F', ?_, hperm, fun i j h1 h2 => ?_, fun bx => kept_put _ _⟩
    · have h := words_put (q := q) hW hsz hF'
      refine h.same fun g' hg' => ?_
      obtain rfl : g = g' := by simpa [Value.ownBlock] using hg'
      have hk2 : g < (Go.Sort.putRowK encW 3 (Go.Sort.ahead W q) g 0 F'.toArray).heap.size := by simpa [Go.Sort.putRowK, Go.Sort.putRow, Go.Sort.mapBlock, Go.Sort.ahead] using hg2
      show ((Go.Sort.putRowK encW 3 (Go.Sort.ahead W q) g 0 F'.toArray).heap ++ os)[g]? = _
      rw [Array.getElem?_append_left hk2]
    · have h := hs i j (Nat.zero_le _) h1 (by simpa [hsz] using h2)
      rw [arr_getD F' j h2, arr_getD F' i (by omega)] at h
      exact h
theorem each_all (I : World → Prop) (p : List Int → Bool) (hf : Nat) (hlb : Array Value) (hb bx m : Nat) (hm3 : m ≤ 3) (eg : ∀ args w, (callFunc hf args).run Try.prog w = .ok (.enter hf args) w)
    (hH : HoldOk I p (fun cs => cs.length = m ∧ absL cs ≤ 6) hf hlb) : ∀ ls, EachOk I p hf hlb hb bx m ls := by
  intro ls
  induction ls with
  | nil => exact each_nil I p hf hlb hb bx m eg hH
  | cons l ls ih => exact each_cons I p hf hlb hb bx m l ls hm3 hH ih
set_option maxRecDepth 100000 in
set_option maxHeartbeats 4000000 in
theorem wordsThat_any (I : World → Prop) (p : List Int → Bool) (hf : Nat) (hlb : Array Value) (n most : Nat) (q : Option Addr) (ls : List Nat) (h3 : ls.length ≤ 3) (hmost : most ≤ 6) (eg : ∀ args w, (callFunc hf args).run Try.prog w = .ok (.enter hf args) w)
    (hH : HoldOk I p (fun cs => cs.length = ls.length ∧ absL cs ≤ 6) hf hlb) (cf : List Int → List Int → Int) (gf : Nat) (eg2 : ∀ args w, (callFunc gf args).run Try.prog w = .ok (.enter gf args) w) (hO : Go.Sort.SWO (ltOf cf))
    (hc : ∀ (x y : List Int) (W : World), Calls Try.prog gf #[.agg (encW x).toArray, .agg (encW y).toArray] W fun e w' => e = .returned (.int .i64 (cf x y)) ∧ Grw W w')
    (w : World) (hI : I w) (hL : Lets w (.pointer q) 0 ls) :
    Calls Try.prog 62 #[.agg #[.int .i64 (n:Int), .pointer q], .int .i64 (most:Int), .func (.func hf) #[] hlb, .func (.func gf) #[] #[]] w fun e w' => ∃ v F', e = .returned v ∧ IsWords w' 0 v F' ∧ F'.Perm ((eaC ls.length most).filter p) ∧ (∀ i j, i < j → j < F'.length → ltOf cf (F'.getD j []) (F'.getD i []) = false) ∧ Below w.heap.size w w' := by
  have hB0 := (((Below.refl _ w).alloc (Nat.le_refl _) (.cells #[.int .i64 (n:Int), .pointer q] 50)).alloc (by simp) (.cells #[.func (.func hf) #[] hlb] 99)).alloc (by simp; omega) (.cells #[.slice none 0 0] 69)
  have hbH := (Boxed.new (w.alloc (.cells #[.int .i64 (n:Int), .pointer q] 50)) 99 (.func (.func hf) #[] hlb)).alloc (.cells #[.slice none 0 0] 69)
  have hbF := Boxed.new ((w.alloc (.cells #[.int .i64 (n:Int), .pointer q] 50)).alloc (.cells #[.func (.func hf) #[] hlb] 99)) 69 (.slice none 0 0)
  have hz0 : (((w.alloc (.cells #[.int .i64 (n:Int), .pointer q] 50)).alloc (.cells #[.func (.func hf) #[] hlb] 99)).alloc (.cells #[.slice none 0 0] 69)).heap.size = w.heap.size + 3 := by simp
  simp only [World.size_alloc] at hbH hbF
  have hA := ((Duo.new w 50 (.int .i64 (n:Int)) (.pointer q)).alloc (.cells #[.func (.func hf) #[] hlb] 99)).alloc (.cells #[.slice none 0 0] 69)
  obtain ⟨W0, hW0⟩ : ∃ W0, ((w.alloc (.cells #[.int .i64 (n:Int), .pointer q] 50)).alloc (.cells #[.func (.func hf) #[] hlb] 99)).alloc (.cells #[.slice none 0 0] 69) = W0 := ⟨_, rfl⟩
  rw [hW0] at hB0 hbH hbF hz0 hA
  have hG0 : Gath W0 (w.heap.size + 1 + 1) (.slice none 0 0) [] := ⟨hbF, rfl, .inl ⟨rfl, rfl⟩⟩
  have h13 : 13 ^ ls.length ≤ 13 ^ 3 := Nat.pow_le_pow_right (by omega) h3
  have hwl : Below w.heap.size w W0 := hB0
  have hLW : Lets W0 (.pointer q) 0 ls := hL.below hB0
  have HE := Lib.hid (each_all I p hf hlb (w.heap.size + 1) (w.heap.size + 1 + 1) ls.length h3 eg hH ls most (.pointer q) [] (.slice none 0 0) [] W0 (by simp) (by show 0 + most ≤ 6; omega) hLW (hH.1 _ _ hI (KeptW.of_below hB0)) hbH hG0 (by show 0 + _ ≤ _; omega))
  have HF : Hid ([] ++ ((eaC ls.length most).map (([] : List Int) ++ ·)).filter p = (eaC ls.length most).filter p) := Lib.hid (by simp)
  rw [HF.out] at HE
  have HOk : Hid (okL ((eaC ls.length most).filter p) ∧ ((eaC ls.length most).filter p).length ≤ 100000) := Lib.hid ⟨fun cs hcs i => by
    have h := (ea_mem _ _ _).1 (List.mem_filter.1 hcs).1
    have := abs_get cs i
    unfold cO
    omega, Nat.le_trans (List.length_filter_le _ _) (ea_len _ _ h3 hmost)⟩
  generalize (eaC ls.length most).filter p = F at *
  have HS := Lib.hid (fun v W h => sort_any cf gf eg2 hO hc v F W h HOk.out.1 HOk.out.2)
  have HB0 := Lib.hid hB0
  have HZ0 := Lib.hid hz0
  have ca := hA.cell1
  have hpt : (wV ([] : List Int)) = #[.int .i64 0, .int .i64 0, .int .i64 0] := rfl
  rw [hpt] at HE
  clear h3 hmost hH hO hc hI hL hB0 hbH hbF hz0 hA hG0 h13 hwl hLW hpt
  go_enter Try.func62, Try.ntmps62
  go_wp2_with fail
  refine HE.out.mono ?_
  rintro e W1 ⟨rfl, v1, hG1, hGo1, hI1⟩
  have c1 := hG1.1.cell
  have HG1 := Lib.hid hG1
  have HGo1 := Lib.hid hGo1
  obtain ⟨A1, l1, k1, rfl⟩ := hG1.2.slice
  clear hG1 hGo1 hI1
  go_wp2_with fail
  refine (HS.out _ _ HG1.out.2).mono ?_
  rintro e W2 ⟨rfl, F', hw2, hp2, hs2, hk2⟩
  have hb2 : Boxed W2 (w.heap.size + 1 + 1) 69 (.slice A1 l1 k1) := ((hk2 0).block _ HG1.out.1.lt (by omega) (fun e => by
    obtain ⟨cur, h⟩ := HG1.out.2.type e.symm
    have h2 : W1.heap[w.heap.size + 1 + 1]? = _ := HG1.out.1
    rw [h] at h2
    cases h2)).trans HG1.out.1
  have c2 := hb2.cell
  have HBf : Hid (Below w.heap.size w W2) := Lib.hid (by
    have h1 := HGo1.out
    have h0 := HB0.out
    have hzz := HZ0.out
    refine ⟨(hk2 0).os.trans (h1.1.os.trans h0.os), (hk2 0).tape.trans (h1.1.tape.trans h0.tape), (hk2 0).output.trans (h1.1.output.trans h0.output), Nat.le_trans h0.size (Nat.le_trans h1.1.size (hk2 0).size), fun k hk => ?_⟩
    have ka : W1.heap[k]? = w.heap[k]? := (h1.1.block k (by omega) (by omega) (by simp [Value.ownBlock])).trans (h0.block k hk)
    refine ((hk2 (w.heap.size + 1)).block k (by have := h1.1.size; omega) (by omega) (fun e => ?_)).trans ka
    rcases h1.2 k e.symm with h | h
    · simp [Value.ownBlock] at h
    · omega)
  clear hb2 hk2
  have HR := Lib.hid (⟨hw2, hp2, hs2⟩ : IsWords W2 0 (.slice A1 l1 k1) F' ∧ F'.Perm F ∧ (∀ i j, i < j → j < F'.length → ltOf cf (F'.getD j []) (F'.getD i []) = false))
  clear hw2 hp2 hs2
  go_wp2
  go_ret
  exact ⟨_, F', rfl, HR.out.1, HR.out.2.1, HR.out.2.2, HBf.out⟩
end Go.Proofs.Ytnlalccnhpblkaa
