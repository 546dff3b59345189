/- Words, the program's side: the laws of an alphabet. Written by gen132.py. -/
import Derived.Test.YtnlalccnhpblkaaWrpS
namespace Go.Proofs.Ytnlalccnhpblkaa
open Go.RowKit Go.Shelf
set_option linter.unusedVariables false
attribute [local go_sem] Oper.semAt_some
theorem laws_fold (n : Nat) (ls : List Nat) (k : Nat) (h3 : ls.length ≤ 3) : (zerosL n ls k).foldl (leastStep partD) [] = lawsN n ls k := by
  rw [fold_part ls.length h3 _ _ (fun c hc => ((zeros_mem n ls k c).1 hc).1) (fun c hc => by simp at hc)]
  exact zeros_least n ls k
set_option maxRecDepth 100000 in
set_option maxHeartbeats 4000000 in
theorem laws_any (n k : Nat) (q : Option Addr) (ls : List Nat) (w : World) (h1 : 1 ≤ n) (h2 : n ≤ 12) (h3 : ls.length ≤ 3) (hk : k ≤ 6) (hls : ∀ l ∈ ls, l < n) (hL : Lets w (.pointer q) 0 ls) :
    Calls Try.prog 40 #[.agg #[.int .i64 (n:Int), .pointer q], .int .i64 (k:Int)] w fun e w' => ∃ v, e = .returned v ∧ IsWords w' 0 v (lawsN n ls k) ∧ Below w.heap.size w w' := by
  have hB0 := (Below.refl w.heap.size w).alloc (Nat.le_refl _) (.cells #[.int .i64 (n:Int), .pointer q] 50)
  have hD0 := Duo.new w 50 (.int .i64 (n:Int)) (.pointer q)
  obtain ⟨W0, hW0⟩ : ∃ W0, w.alloc (.cells #[.int .i64 (n:Int), .pointer q] 50) = W0 := ⟨_, rfl⟩
  rw [hW0] at hB0 hD0
  have hL0 := hL.below hB0
  have HW := Lib.hid (wordsThat_any (LwI n q ls w.heap.size) (fun cs => decide (1 ≤ absL cs) && zeroC n ls cs) 60 #[.pointer (some ⟨w.heap.size, 0, none⟩)] n k q ls h3 hk (enters_of Try.func60 (by kernel_rfl) rfl)
    (lawsHold n q ls w.heap.size h1 h2 h3 (fun l hl => by have := hls l hl; omega)) cfA 63 (enters_of Try.func63 (by kernel_rfl) rfl) swoA cmpA_hc W0 ⟨hD0, hL0⟩ hL0)
  have HZ := Lib.hid (fun F' hp hs => zeros_of n ls k F' h3 hk hp hs)
  have HZl := Lib.hid (zeros_len n ls k h3 hk)
  have HF := Lib.hid (laws_fold n ls k h3)
  have HB0 := Lib.hid hB0
  have d0 := hD0.cell0
  have d1 := hD0.cell1
  clear h1 h2 h3 hls hL hB0 hD0 hL0 hk
  go_enter Try.func40, Try.ntmps40
  go_wp2_with fail
  clear hW0 d0 d1
  refine HW.out.mono ?_
  rintro e W1 ⟨v1, F', rfl, hw1, hp, hs, hb1⟩
  have hF := HZ.out F' hp hs
  rw [hF] at hw1
  clear hp hs hF HZ
  have HB1 := Lib.hid (HB0.out.trans (hb1.mono HB0.out.size))
  clear hb1
  generalize zerosL n ls k = Z at *
  obtain ⟨A1, c1, rfl, hA⟩ : ∃ A1 c1, v1 = .slice A1 Z.length c1 ∧ (0 < Z.length → ∃ g, A1 = some ⟨g, 0, none⟩ ∧ g < W1.heap.size ∧ ∀ i, i < Z.length → (W1.cell? ⟨g, i * 3, none⟩ = some (.int .i64 (cO (Z.getD i []) 0)) ∧ W1.cell? ⟨g, i * 3 + 1, none⟩ = some (.int .i64 (cO (Z.getD i []) 1)) ∧ W1.cell? ⟨g, i * 3 + 2, none⟩ = some (.int .i64 (cO (Z.getD i []) 2)))) := by
    rcases hw1.shape with ⟨rfl, e⟩ | ⟨g, c, rfl, _, hg⟩
    · exact ⟨none, 0, by rw [e]; rfl, fun h => by rw [e] at h; simp at h⟩
    · exact ⟨_, c, rfl, fun _ => ⟨g, rfl, hg, fun i hi => ⟨hw1.cells hi 0 (by omega), hw1.cells hi 1 (by omega), hw1.cells hi 2 (by omega)⟩⟩⟩
  have hb2 := (Below.refl W1.heap.size W1).alloc (Nat.le_refl _) (.cells #[.slice A1 Z.length c1] 69)
  have HLO := Lib.hid (leastOfW_any W1.heap.size Z.length c1 A1 Z (W1.alloc (.cells #[.slice A1 Z.length c1] 69)) rfl HZl.out (Boxed.new W1 69 _) (fun h => by
    obtain ⟨g, e, hg, hc⟩ := hA h
    exact ⟨g, e, by simp; omega, fun i hi => ⟨(hb2.cell (p := ⟨g, i * 3, none⟩) hg).trans (hc i hi).1, (hb2.cell (p := ⟨g, i * 3 + 1, none⟩) hg).trans (hc i hi).2.1, (hb2.cell (p := ⟨g, i * 3 + 2, none⟩) hg).trans (hc i hi).2.2⟩⟩))
  rw [HF.out] at HLO
  have HB2 := Lib.hid (HB1.out.trans (hb2.mono HB1.out.size))
  clear hA hb2 hw1
  generalize Z.length = N at *
  go_wp2_with (first
    | (go_at_call 65; refine (values_any A1 N c1 W1).mono ?_; rintro e w' ⟨rfl, rfl⟩)
    | (go_at_call 64; refine HLO.out.mono ?_; rintro e w' ⟨v, rfl, hb3, hI⟩; obtain ⟨A9, l9, cap9, rfl⟩ := hI.slice))
  go_ret
  exact ⟨_, rfl, hI, HB2.out.trans (hb3.mono HB2.out.size)⟩
end Go.Proofs.Ytnlalccnhpblkaa
