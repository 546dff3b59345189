/- Words, the program's side: what the laws are gathered from. Written by gen128.py. -/
import Derived.Test.YtnlalccnhpblkaaWrpJ
import Derived.Test.YtnlalccnhpblkaaWrdR
namespace Go.Proofs.Ytnlalccnhpblkaa
open Go.RowKit Go.Shelf
set_option linter.unusedVariables false
attribute [local go_sem] Oper.semAt_some
theorem cmpA_hc (x y : List Int) (W : World) : Calls Try.prog 63 #[.agg (encW x).toArray, .agg (encW y).toArray] W fun e w' => e = .returned (.int .i64 (cfA x y)) ∧ Grw W w' :=
  byAmounts_any W _ _ _ _ _ _
/-- The sorted list of the words that end at 0 is the list of the least order. -/
theorem zeros_of (n : Nat) (ls : List Nat) (k : Nat) (F' : List (List Int)) (h3 : ls.length ≤ 3) (hk : k ≤ 6)
    (hp : F'.Perm ((eaC ls.length k).filter fun cs => decide (1 ≤ absL cs) && zeroC n ls cs)) (hs : ∀ i j, i < j → j < F'.length → ltOf cfA (F'.getD j []) (F'.getD i []) = false) : F' = zerosL n ls k := by
  refine zeros_sorted n ls k F' ?_ (fun a => hp.mem_iff)
  have hN : F'.Nodup := hp.symm.nodup ((ea_nodup _ _).filter _)
  rw [List.pairwise_iff_getElem]
  intro i j hi hj hij
  have hq := hs i j hij hj
  have ei : F'.getD i [] = F'[i] := by rw [List.getD_eq_getElem?_getD, List.getElem?_eq_getElem hi]; rfl
  have ej : F'.getD j [] = F'[j] := by rw [List.getD_eq_getElem?_getD, List.getElem?_eq_getElem hj]; rfl
  have mi := (List.mem_filter.1 (hp.mem_iff.1 (List.getElem_mem hi))).1
  have mj := (List.mem_filter.1 (hp.mem_iff.1 (List.getElem_mem hj))).1
  have li := ((ea_mem _ _ _).1 mi).1
  have lj := ((ea_mem _ _ _).1 mj).1
  rw [ei, ej, cfA_lt] at hq
  have hq' : lessC (tB F'[j]) (tB F'[i]) = false := hq
  rw [tB_tri (word_bd mi (by omega)), tB_tri (word_bd mj (by omega)), tri_less _ _ (by rw [li, lj]) (by rw [lj]; exact h3)] at hq'
  rcases less_total F'[i] F'[j] (by rw [li, lj]) with e | e | e
  · exact absurd e (List.pairwise_iff_getElem.1 (List.nodup_iff_pairwise_ne.1 hN) i j hi hj hij)
  · exact e
  · rw [e] at hq'; cases hq'
theorem zeros_len (n : Nat) (ls : List Nat) (k : Nat) (h3 : ls.length ≤ 3) (hk : k ≤ 6) : (zerosL n ls k).length ≤ 100000 := by
  unfold zerosL
  have h : ∀ m' : Fin 4, ∀ k' : Fin 7, (lexC m'.val k'.val).length ≤ 100000 := by decide +kernel
  exact Nat.le_trans (List.length_filter_le _ _) (h ⟨ls.length, by omega⟩ ⟨k, by omega⟩)
/-- The test of a law, by its three amounts. -/
def tri0 (cs : List Int) : Bool := !(decide (cO cs 0 = 0) && (decide (cO cs 1 = 0) && decide (cO cs 2 = 0)))
theorem tri0_abs (cs : List Int) (h3 : cs.length ≤ 3) : tri0 cs = decide (1 ≤ absL cs) := by
  have h := tri_abs cs h3
  have e : absL (triL cs) = (cO cs 0).natAbs + ((cO cs 1).natAbs + ((cO cs 2).natAbs + 0)) := rfl
  rw [← h, e]
  unfold tri0
  rw [Bool.eq_iff_iff]
  simp
  omega
theorem sign_tri (cs : List Int) (h3 : cs.length ≤ 3) : signC cs = !(decide (cO cs 0 < 0) || decide (cO cs 1 < 0) || decide (cO cs 2 < 0)) := by
  unfold signC cO
  match cs, h3 with
  | [], _ => rfl
  | [a], _ => rw [Bool.eq_iff_iff]; simp
  | [a, b], _ => rw [Bool.eq_iff_iff]; simp
  | [a, b, c], _ => rw [Bool.eq_iff_iff]; simp; omega
theorem Try.eq_word (x0 x1 x2 : Int) (W : World) : (Op.equalIn 10000 52 (.agg #[.int .i64 x0, .int .i64 x1, .int .i64 x2]) (.agg #[.int .i64 0, .int .i64 0, .int .i64 0])).run Try.prog W = .ok (decide (x0 = 0) && (decide (x1 = 0) && decide (x2 = 0))) W := by
  rcases x0 with (_ | m) | m
  · rcases x1 with (_ | m) | m
    · rcases x2 with (_ | m) | m
      · kernel_rfl
      · kernel_rfl
      · kernel_rfl
    · kernel_rfl
    · kernel_rfl
  · kernel_rfl
  · kernel_rfl
/-- What the test of a law needs. -/
def LwI (n : Nat) (q : Option Addr) (ls : List Nat) (ab : Nat) (W : World) : Prop := Duo W ab 50 (.int .i64 (n:Int)) (.pointer q) ∧ Lets W (.pointer q) 0 ls
set_option maxRecDepth 100000 in
set_option maxHeartbeats 4000000 in
theorem lawsTest (n : Nat) (q : Option Addr) (ls : List Nat) (ab r : Nat) (x0 x1 x2 : Int) (b1 b2 : Bool) (w : World) (hI : LwI n q ls ab w)
    (hE : ∀ X, Lets X (.pointer q) 0 ls → Calls Try.prog 28 #[.agg #[.int .i64 (n:Int), .pointer q], .agg #[.int .i64 x0, .int .i64 x1, .int .i64 x2]] X fun e w' => e = .returned (.int .i64 ((r : Nat) : Int)) ∧ Below X.heap.size X w')
    (h1 : (!(decide (x0 = 0) && (decide (x1 = 0) && decide (x2 = 0)))) = b1) (h2 : (decide (x0 < 0) || decide (x1 < 0) || decide (x2 < 0)) = b2) :
    Calls Try.prog 60 #[.agg #[.int .i64 x0, .int .i64 x1, .int .i64 x2], .pointer (some ⟨ab, 0, none⟩)] w fun e w' => e = .returned (.bool (b1 && !b2 && ((r : Int) == 0))) ∧ Below w.heap.size w w' := by
  have HE := Lib.hid hE
  have HG := Lib.hid (fun X => hasGreat_any X x0 x1 x2)
  have HQ := Lib.hid (fun X => Try.eq_word x0 x1 x2 X)
  rw [h2] at HG
  have h1' : (decide (x0 = 0) && (decide (x1 = 0) && decide (x2 = 0))) = !b1 := by rw [← h1, Bool.not_not]
  rw [h1'] at HQ
  have hB0 := (Below.refl w.heap.size w).alloc (Nat.le_refl _) (.cells #[.int .i64 x0, .int .i64 x1, .int .i64 x2] 52)
  have hT0 := Ter.new w 52 (.int .i64 x0) (.int .i64 x1) (.int .i64 x2)
  have hA0 : (Duo (w.alloc (.cells #[.int .i64 x0, .int .i64 x1, .int .i64 x2] 52)) ab 50 (.int .i64 (n:Int)) (.pointer q) ∧ Lets (w.alloc (.cells #[.int .i64 x0, .int .i64 x1, .int .i64 x2] 52)) (.pointer q) 0 ls) ∧ Ter (w.alloc (.cells #[.int .i64 x0, .int .i64 x1, .int .i64 x2] 52)) w.heap.size 52 (.int .i64 x0) (.int .i64 x1) (.int .i64 x2) ∧ Below w.heap.size w (w.alloc (.cells #[.int .i64 x0, .int .i64 x1, .int .i64 x2] 52)) := by
    exact ⟨⟨hI.1.alloc _, hI.2.below hB0⟩, hT0, hB0⟩
  obtain ⟨b3, h3⟩ : ∃ b, ((r : Int) == 0) = b := ⟨_, rfl⟩
  rw [h3]
  clear h1 h1' h2 hB0 hT0 hI hE
  go_enter Try.func60, Try.ntmps60
  go_wp2_with fail
  obtain ⟨W0, hW0⟩ : ∃ W0, w.alloc (.cells #[.int .i64 x0, .int .i64 x1, .int .i64 x2] 52) = W0 := ⟨_, rfl⟩
  rw [hW0] at hA0 ⊢
  clear hW0
  rw [HQ.out]
  have a0 := hA0.1.1.cell0; have b0 := hA0.1.1.cell1; have s0 := hA0.2.1.cell0; have t0 := hA0.2.1.cell1; have u0 := hA0.2.1.cell2
  cases b1
  · go_simp
    go_wp2
    go_ret
    exact ⟨rfl, hA0.2.2⟩
  · go_simp
    cases b2
    · go_wp2_with (first
        | (go_at_call 61; go_loud (refine (HG.out _).mono ?_; rintro e W1 ⟨rfl, hb1⟩); go_loud (have hA1 := (⟨⟨hA0.1.1.bel hA0.1.1.lt hb1, hA0.1.2.below hb1⟩, hA0.2.1.below hA0.2.1.lt hb1, hA0.2.2.trans (hb1.mono hA0.2.2.size)⟩ : (Duo _ ab 50 (.int .i64 (n:Int)) (.pointer q) ∧ Lets _ (.pointer q) 0 ls) ∧ Ter _ w.heap.size 52 (.int .i64 x0) (.int .i64 x1) (.int .i64 x2) ∧ Below w.heap.size w _)); have a1 := hA1.1.1.cell0; have b1 := hA1.1.1.cell1; have s1 := hA1.2.1.cell0; have t1 := hA1.2.1.cell1; have u1 := hA1.2.1.cell2)
        | (go_at_call 28; refine (HE.out _ hA1.1.2).mono ?_; rintro e W2 ⟨rfl, hb2⟩; have hA2 := (⟨⟨hA1.1.1.bel hA1.1.1.lt hb2, hA1.1.2.below hb2⟩, hA1.2.1.below hA1.2.1.lt hb2, hA1.2.2.trans (hb2.mono hA1.2.2.size)⟩ : (Duo _ ab 50 (.int .i64 (n:Int)) (.pointer q) ∧ Lets _ (.pointer q) 0 ls) ∧ Ter _ w.heap.size 52 (.int .i64 x0) (.int .i64 x1) (.int .i64 x2) ∧ Below w.heap.size w _)))
      go_ret
      exact ⟨ret_bool (by first | rfl | exact h3), hA2.2.2⟩
    · go_wp2_with (go_at_call 61; go_loud (refine (HG.out _).mono ?_; rintro e W1 ⟨rfl, hb1⟩); go_loud (have hA1 := (⟨⟨hA0.1.1.bel hA0.1.1.lt hb1, hA0.1.2.below hb1⟩, hA0.2.1.below hA0.2.1.lt hb1, hA0.2.2.trans (hb1.mono hA0.2.2.size)⟩ : (Duo _ ab 50 (.int .i64 (n:Int)) (.pointer q) ∧ Lets _ (.pointer q) 0 ls) ∧ Ter _ w.heap.size 52 (.int .i64 x0) (.int .i64 x1) (.int .i64 x2) ∧ Below w.heap.size w _)))
      go_ret
      exact ⟨rfl, hA1.2.2⟩
theorem lawsHold (n : Nat) (q : Option Addr) (ls : List Nat) (ab : Nat) (h1 : 1 ≤ n) (h2 : n ≤ 12) (h3 : ls.length ≤ 3) (hls : ∀ l ∈ ls, l ≤ 12) :
    HoldOk (LwI n q ls ab) (fun cs => decide (1 ≤ absL cs) && zeroC n ls cs) (fun cs => cs.length = ls.length ∧ absL cs ≤ 6) 60 #[.pointer (some ⟨ab, 0, none⟩)] := by
  refine ⟨fun X Y h k => ⟨k.duo h.1 (by decide) (by decide), k.lets h.2⟩, fun cs W hok hI => ?_⟩
  have h := lawsTest n q ls ab (endW n ls cs) (cO cs 0) (cO cs 1) (cO cs 2) _ _ W hI (fun X hL => end_any n (.pointer q) ls cs X h1 h2 hok.1 h3 (fun i => by have := abs_get cs i; unfold cO; have := hok.2; omega) hls hL) rfl rfl
  refine h.mono fun e w' hh => ⟨?_, hh.2⟩
  rw [hh.1]
  have e1 := tri0_abs cs (by rw [hok.1]; exact h3)
  have e2 := sign_tri cs (by rw [hok.1]; exact h3)
  unfold tri0 at e1
  show Ending.returned (Value.bool _) = Ending.returned (Value.bool (decide (1 ≤ absL cs) && zeroC n ls cs))
  unfold zeroC
  rw [← e1, e2]
  have e3 : (((endW n ls cs : Nat) : Int) == 0) = (endW n ls cs == 0) := by rw [Bool.eq_iff_iff]; simp
  rw [e3]
  generalize (!(decide (cO cs 0 = 0) && (decide (cO cs 1 = 0) && decide (cO cs 2 = 0)))) = c1
  generalize (!(decide (cO cs 0 < 0) || decide (cO cs 1 < 0) || decide (cO cs 2 < 0))) = c2
  generalize (endW n ls cs == 0) = c3
  cases c1 <;> cases c2 <;> cases c3 <;> rfl
end Go.Proofs.Ytnlalccnhpblkaa
