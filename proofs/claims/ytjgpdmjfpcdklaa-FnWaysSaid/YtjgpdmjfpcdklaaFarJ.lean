/- FarWays: the program, and its exact law. -/
import Derived.Test.YtjgpdmjfpcdklaaFarI
import Derived.Test.YtjgpdmjfpcdklaaFarH
import Derived.Laws.EntriesVeiled
namespace Go.Proofs.Ytjgpdmjfpcdklaa
open Go.RowKit
set_option linter.unusedVariables false
def toJ (F : Nat → Nat) (j v : Nat) : Int := if v < j then ((F v : Nat) : Int) else 0
theorem toJ_set (F : Nat → Nat) (n j : Nat) : (tabI n (toJ F j)).set j ((F j : Nat) : Int) = tabI n (toJ F (j + 1)) := by
  rw [tabI_set]
  refine tabI_congr _ _ _ fun v hv => ?_
  unfold toJ
  by_cases e : v = j
  · subst e; simp
  · rw [if_neg e]
    by_cases h : v < j
    · rw [if_pos h, if_pos (by omega)]
    · rw [if_neg h, if_neg (by omega)]
theorem toJ_end (F : Nat → Nat) (n : Nat) : tabI n (toJ F n) = tabW n F := tabI_congr _ _ _ fun v hv => by simp [toJ, hv]
set_option maxRecDepth 100000 in
set_option maxHeartbeats 2000000 in
theorem ways_any (n s M : Nat) (w : World) (h1 : 1 ≤ n) (h2 : n ≤ 12) (hs : s < 2 ^ n) (hT : Tells w M (partN n s) (farN n s)) :
    Calls Try.prog 41 #[.agg #[.int .i64 (n:Int), .int .i64 (s:Int), .map (some M)]] w (SlicePost w n (tabW n (gotN n s n))) := by
  have hM := hT.lt
  have HCt := Lib.hid (fun (v : Nat) W hv hD hC hT => count_any n s M w.heap.size (w.heap.size + 1) h1 h2 hs (n + 1) v W hv (by have := distN_range n s v; omega) hD hC hT)
  have hmkA := make_ints n (by omega)
  have HMd := Lib.hid (made_ints n (by omega))
  have HTri := Lib.hid (Tri.new w n s M)
  have HT := Lib.hid hT
  have hB0 : Below w.heap.size w (w.alloc (.cells #[.int .i64 (n : Int), .int .i64 (s : Int), .map (some M)] 55)) := (Below.refl _ _).alloc (Nat.le_refl _) _
  clear hT
  have hBx := Boxed.new (w.alloc (.cells #[.int .i64 (n : Int), .int .i64 (s : Int), .map (some M)] 55)) 37 Value.nilFunc
  rw [World.size_alloc] at hBx
  have cx := hBx.cell
  have fx := hBx.frozen
  go_enter Try.func41, Try.ntmps41
  go_wp2
  have hC0 : Counter ((w.alloc (.cells #[.int .i64 (n : Int), .int .i64 (s : Int), .map (some M)] 55)).alloc (.cells #[.func (.func 65) #[] #[.pointer (some ⟨w.heap.size, 0, none⟩), .pointer (some ⟨w.heap.size + 1, 0, none⟩)]] 37)) w.heap.size (w.heap.size + 1) := by
    have h := Boxed.new (w.alloc (.cells #[.int .i64 (n : Int), .int .i64 (s : Int), .map (some M)] 55)) 37 (.func (.func 65) #[] #[.pointer (some ⟨w.heap.size, 0, none⟩), .pointer (some ⟨w.heap.size + 1, 0, none⟩)])
    rw [World.size_alloc] at h
    exact h
  have hD0 := HTri.out.alloc (.cells #[.func (.func 65) #[] #[.pointer (some ⟨w.heap.size, 0, none⟩), .pointer (some ⟨w.heap.size + 1, 0, none⟩)]] 37)
  have hT0 := (HT.out.alloc (.cells #[.int .i64 (n : Int), .int .i64 (s : Int), .map (some M)] 55)).alloc (.cells #[.func (.func 65) #[] #[.pointer (some ⟨w.heap.size, 0, none⟩), .pointer (some ⟨w.heap.size + 1, 0, none⟩)]] 37)
  have hB1 := hB0.alloc (by simp) (.cells #[.func (.func 65) #[] #[.pointer (some ⟨w.heap.size, 0, none⟩), .pointer (some ⟨w.heap.size + 1, 0, none⟩)]] 37)
  have z1 : ((w.alloc (.cells #[.int .i64 (n : Int), .int .i64 (s : Int), .map (some M)] 55)).alloc (.cells #[.func (.func 65) #[] #[.pointer (some ⟨w.heap.size, 0, none⟩), .pointer (some ⟨w.heap.size + 1, 0, none⟩)]] 37)).heap.size = w.heap.size + 2 := by simp
  have hmd := HMd.out ((w.alloc (.cells #[.int .i64 (n : Int), .int .i64 (s : Int), .map (some M)] 55)).alloc (.cells #[.func (.func 65) #[] #[.pointer (some ⟨w.heap.size, 0, none⟩), .pointer (some ⟨w.heap.size + 1, 0, none⟩)]] 37))
  rw [zeros_tab] at hmd
  have hC1 : Counter _ _ _ := Boxed.alloc hC0 (.cells (madeCells #[.int .i64 0] n) 3)
  have hD1 := hD0.alloc (.cells (madeCells #[.int .i64 0] n) 3)
  have hT1 := hT0.alloc (.cells (madeCells #[.int .i64 0] n) 3)
  have hB2 := hB1.alloc (by omega) (.cells (madeCells #[.int .i64 0] n) 3)
  rw [z1] at hmd
  obtain ⟨W1, hW1⟩ : ∃ W1, ((w.alloc (.cells #[.int .i64 (n : Int), .int .i64 (s : Int), .map (some M)] 55)).alloc (.cells #[.func (.func 65) #[] #[.pointer (some ⟨w.heap.size, 0, none⟩), .pointer (some ⟨w.heap.size + 1, 0, none⟩)]] 37)).alloc (.cells (madeCells #[.int .i64 0] n) 3) = W1 := ⟨_, rfl⟩
  rw [hW1] at hmd hC1 hD1 hT1 hB2
  try rw [hW1]
  have HT1 := Lib.hid hT1
  have HD1 := Lib.hid hD1
  have HB1 := Lib.hid hB2
  have HC1 := Lib.hid hC1
  have HI1 : Hid (IsInts W1 w.heap.size (.slice (some ⟨w.heap.size + 1 + 1, 0, none⟩) n n) (tabI n (toJ (gotN n s n) 0))) := Lib.hid (by
    have e : tabI n (fun _ => 0) = tabI n (toJ (gotN n s n) 0) := tabI_congr _ _ _ fun v hv => by simp [toJ]
    rw [← e]
    exact hmd.base (by omega))
  clear hT1 hD1 hB1 hB2 hC1 hmd hC0 hD0 hT0 hB0 hBx cx fx hmkA HMd HTri HT z1 hW1
  go_loopw [14] (fun u wr => ∃ j : Nat, j ≤ n ∧ u = .int .i64 (j : Int) ∧ IsInts wr w.heap.size (.slice (some ⟨w.heap.size + 1 + 1, 0, none⟩) n n) (tabI n (toJ (gotN n s n) j)) ∧ Tri wr w.heap.size n s M ∧ Counter wr w.heap.size (w.heap.size + 1) ∧ Tells wr M (partN n s) (farN n s) ∧ Below w.heap.size w wr) (fun u _ => n - (intOf u).toNat)
  case atStart => exact ⟨0, Nat.zero_le _, rfl, HI1.out, HD1.out, HC1.out, HT1.out, HB1.out⟩
  case round =>
    obtain ⟨j, hj, rfl, hI, hD, hC, hT, hB⟩ := hrel
    have HI := Lib.hid hI
    have HT := Lib.hid hT
    have HB := Lib.hid hB
    have HD := Lib.hid hD
    have HC := Lib.hid hC
    by_cases hlt : j < n
    · have cC : wr.cell? ⟨w.heap.size + 1, 0, none⟩ = some (.func (.func 65) #[] #[.pointer (some ⟨w.heap.size, 0, none⟩), .pointer (some ⟨w.heap.size + 1, 0, none⟩)]) := Boxed.cell hC
      have HCall := Lib.hid (HCt.out j wr hlt hD hC hT)
      have hgl := got_le n s j h2
      have HSet := Lib.hid (toJ_set (gotN n s n) n j)
      have zI : w.heap.size + 1 + 1 < wr.heap.size := (World.ownsRow.lt hI _ rfl).2
      clear hI hT hB hD hC
      generalize gotN n s n j = c at HCall hgl HSet
      have i1 : (0 : Int) ≤ (j : Int) := by omega
      have i2 : (j : Int) < (n : Int) := by omega
      have hlen := tabI_len n (toJ (gotN n s n) j)
      go_wp2_with fail
      refine HCall.out.mono ?_
      rintro e w2 ⟨rfl, hb⟩
      have hI2 : IsInts w2 w.heap.size (.slice (some ⟨w.heap.size + 1 + 1, 0, none⟩) (tabI n (toJ (gotN n s n) j)).length n) (tabI n (toJ (gotN n s n) j)) := by rw [hlen]; exact HI.out.belowAll hb
      have c3 := hI2.cell (i := j) (by rw [hlen]; exact hlt)
      have f3 := hI2.frozen j
      have h4 := hI2.set j ((c : Nat) : Int)
      rw [HSet.out, tabI_len] at h4
      have HI4 := Lib.hid h4
      have z2 := hb.size
      have HB4 := Lib.hid ((HB.out.trans (hb.mono HB.out.size)).setCell (p := ⟨w.heap.size + 1 + 1, j, none⟩) (by simp; omega) (.int .i64 ((c : Nat) : Int)))
      have HT4 := Lib.hid ((HT.out.belowAll hb).setCell ⟨w.heap.size + 1 + 1, j, none⟩ (.int .i64 ((c : Nat) : Int)) (by simp; omega))
      have HD4 := Lib.hid ((HD.out.below HD.out.lt hb).same (W' := w2.setCell ⟨w.heap.size + 1 + 1, j, none⟩ (.int .i64 ((c : Nat) : Int))) (Below.heap_setCell _ _ _ _ (by simp; omega)))
      have HC4 : Hid (Counter (w2.setCell ⟨w.heap.size + 1 + 1, j, none⟩ (.int .i64 ((c : Nat) : Int))) w.heap.size (w.heap.size + 1)) := Lib.hid ((Below.heap_setCell _ _ _ _ (by simp)).trans (boxed_below HC.out (Boxed.lt HC.out) hb))
      clear hI2 h4 hb hlen
      generalize (tabI n (toJ (gotN n s n) j)).getD j 0 = z0 at c3
      go_wp2
      go_roundw
      case rel => exact ⟨j + 1, by omega, by go_num, HI4.out, HD4.out, HC4.out, HT4.out, HB4.out⟩
      case measure => simp [intOf]; omega
    · have e : j = n := by omega
      subst e
      clear hI hT hB hD hC
      go_wp2
      go_ret
      exact ⟨_, _, rfl, HB.out, by rw [← toJ_end]; exact HI.out⟩
theorem implFarWays_yes (n s : Nat) (w : World) (h1 : 1 ≤ n) (h2 : n ≤ 12) (hs : s < 2 ^ n) (h0 : s.testBit 0 = false) :
    Calls Try.prog 15 #[.int .i64 (n:Int), .int .i64 (s:Int)] w (ListsPost w n (tabW n (gotN n s n))) := by
  have HO := Lib.hid (distancesOf_yes n s w h1 h2 hs h0)
  have HL := Lib.hid (fun M W hT => ways_any n s M W h1 h2 hs hT)
  go_enter Try.func15, Try.ntmps15
  go_wp2_with fail
  refine HO.out.mono ?_
  rintro e w1 ⟨M, rfl, hb1, hM, hT⟩
  have z1 := hb1.size
  have hT1 := hT.alloc (.cells #[.int .i64 (n:Int), .int .i64 (s:Int), .map (some M)] 55)
  have hB1 := hb1.alloc z1 (.cells #[.int .i64 (n:Int), .int .i64 (s:Int), .map (some M)] 55)
  clear hT hb1
  go_wp2_with (go_at_call 41; refine (HL.out M _ hT1).mono ?_; rintro e w2 ⟨g, cap, rfl, hb2, hI⟩; have HI := Lib.hid hI; clear hI)
  go_ret2
  exact ⟨g, cap, rfl, hB1.trans (hb2.mono hB1.size), HI.out.base hB1.size⟩
theorem implFarWays_no (n s : Int) (w : World) (h : NoStep n s) :
    Calls Try.prog 15 #[.int .i64 n, .int .i64 s] w fun e w' => e = .returned (.tuple #[.slice none 0 0, .bool false]) ∧ Below w.heap.size w w' := by
  have HO := Lib.hid (distancesOf_no n s w h)
  clear h
  go_enter Try.func15, Try.ntmps15
  go_wp2_with fail
  refine HO.out.mono ?_
  rintro e w1 ⟨rfl, hb1⟩
  have z1 := hb1.size
  go_wp2
  go_ret2
  exact ⟨rfl, hb1.alloc z1 _⟩
end Go.Proofs.Ytjgpdmjfpcdklaa
