/- Trees: the program. -/
import Derived.Test.YtookciehnjnmnaaTreeS
import Derived.Test.YtookciehnjnmnaaTreeH
namespace Go.Proofs.Ytookciehnjnmnaa
open Go.RowKit
set_option linter.unusedVariables false
theorem count_size (n b : Nat) (h2 : n ≤ 12) (hb : b < 2 ^ n) : countT b n = sizeN b := by rw [countT_sum, size_sum n b h2 hb]
theorem parts_pos (n s : Nat) (h1 : 1 ≤ n) : 1 ≤ partsN n s := Nat.pos_of_dvd_of_pos (parts_dvd_n n s n) h1
/-- What both ways make of both steps. -/
theorem tree_both (n s : Nat) (h1 : 1 ≤ n) (h2 : n ≤ 11) (hs : s < 2 ^ n) (h0 : s.testBit 0 = false) :
    okF (n - 1) 1 (treeR n (bothN n s)) = true ∧ (partsN n s = 1 → okG (n - 1) 1 (treeR n (bothN n s)) = true ∧ detG (n - 1) 1 (treeR n (bothN n s)) = treeN n (bothN n s)) ∧ (partsN n s ≠ 1 → treeN n (bothN n s) = 0) ∧
    treeR n (bothN n s) = rowsT n (bothN n s) ((sizeN (bothN n s) : Nat) : Int) 1 (n - 1) := by
  have hb := bothN_lt n s h1 hs
  have hbb := both_both n s h1 hs
  have hf := both_facts n (bothN n s) h1 h2 hb (both_zero_bit n s h1 hs h0) (evenT_of n _ n (Nat.le_refl n) (even_sb n _ h1 (by omega) hb hbb))
  rw [parts_both n s h1 hs] at hf
  refine ⟨hf.1, hf.2.1, hf.2.2, ?_⟩
  unfold treeR
  rw [count_size n _ (by omega) hb]
theorem trees_any (n s : Nat) (w : World) (h1 : 1 ≤ n) (h2 : n ≤ 11) (hs : s < 2 ^ n) (h0 : s.testBit 0 = false) :
    Calls Try.prog 41 #[.agg #[.int .i64 (n:Int), .int .i64 (s:Int)]] w fun e w' => e = .returned (.int .i64 (treeN n (bothN n s))) ∧ Below w.heap.size w w' := by
  obtain ⟨f1, f2, f3, f4⟩ := tree_both n s h1 h2 hs h0
  have HP := Lib.hid (fun W => parts_any n s W h1 (by omega) hs)
  have HE := Lib.hid (fun W => edgeRows_any n s W h1 (by omega) hs (both_zero_bit n s h1 hs h0))
  have HB := Lib.hid ((Below.refl w.heap.size w).alloc (Nat.le_refl _) (.cells #[.int .i64 (n:Int), .int .i64 (s:Int)] 41))
  have HD := Lib.hid (Duo.new w 41 (.int .i64 (n:Int)) (.int .i64 (s:Int)))
  have hpp := parts_pos n s h1
  by_cases hp : partsN n s = 1
  · obtain ⟨g1, g2⟩ := f2 hp
    rw [hp] at HP
    have hS := sub_start n (bothN n s) ((sizeN (bothN n s) : Nat) : Int)
    rw [← f4] at hS
    have HDet := Lib.hid (fun g G C N W (hG : Grid W N g (n - 1) (n - 1) (n - 1) G C (fun i j => entT n (bothN n s) (1 + i) ((sizeN (bothN n s) : Nat) : Int) (1 + j))) => determinant_any (n - 1) g (n - 1) N G C _ _ W (by omega) hG hS g1)
    rw [g2] at HDet
    clear f1 f2 f3 f4 g1 g2 hS hp hpp
    go_enter Try.func41, Try.ntmps41
    go_wp2_with fail
    refine (HP.out _).mono ?_
    rintro e w1 ⟨rfl, hb1⟩
    have HD1 := Lib.hid (duo_below HD.out HD.out.lt hb1)
    have HB1 := Lib.hid (HB.out.trans (hb1.mono HB.out.size))
    have d0 := HD1.out.cell0
    have d1 := HD1.out.cell1
    clear hb1
    go_wp2_with fail
    refine (HE.out _).mono ?_
    rintro e w2 ⟨g, G, C, rfl, hb2, hG2⟩
    have HG2 := Lib.hid hG2
    have HB2 := Lib.hid (HB1.out.trans (hb2.mono HB1.out.size))
    have z1 := HB1.out.size
    clear hb2 hG2
    go_wp2_with fail
    refine (HDet.out g G C _ _ HG2.out).mono ?_
    rintro e w3 ⟨rfl, hb3⟩
    have HB3 := Lib.hid (HB2.out.trans (hb3.mono z1))
    clear hb3
    go_wp2
    go_ret
    exact ⟨rfl, HB3.out⟩
  · rw [f3 hp]
    have hgt : (1 : Int) < ((partsN n s : Nat) : Int) := by omega
    generalize partsN n s = p at *
    clear f1 f2 f3 f4 hp hpp
    go_enter Try.func41, Try.ntmps41
    go_wp2_with fail
    refine (HP.out _).mono ?_
    rintro e w1 ⟨rfl, hb1⟩
    have HB1 := Lib.hid (HB.out.trans (hb1.mono HB.out.size))
    clear hb1
    go_wp2
    go_ret
    exact ⟨rfl, HB1.out⟩
theorem implWalkTrees_no (n s : Int) (w : World) (h : NoStep n s) :
    Calls Try.prog 16 #[.int .i64 n, .int .i64 s] w fun e w' => e = .returned (.tuple #[.int .i64 0, .bool false]) ∧ Below w.heap.size w w' := by
  have HO := Lib.hid (fun W => stepsOf_no n s W h)
  clear h
  go_enter Try.func16, Try.ntmps16
  go_wp2_with fail
  refine (HO.out _).mono ?_
  rintro e w1 ⟨rfl, hb⟩
  go_wp2
  go_ret2
  exact ⟨rfl, hb.alloc hb.size _⟩
theorem implWalkTrees_out (n s : Nat) (w : World) (h1 : 1 ≤ n) (h2 : n ≤ 12) (hs : s < 2 ^ n) (h0 : s.testBit 0 = false) (hn : ¬ n ≤ 11) :
    Calls Try.prog 16 #[.int .i64 (n:Int), .int .i64 (s:Int)] w fun e w' => e = .returned (.tuple #[.int .i64 0, .bool false]) ∧ Below w.heap.size w w' := by
  have HO := Lib.hid (fun W => stepsOf_yes n s W h1 h2 hs h0)
  have k1 : (11 : Int) < (n : Int) := by omega
  have k2 : decide ((11 : Int) < (n : Int)) = true := decide_eq_true k1
  have k3 : decide (11 < n) = true := decide_eq_true (by omega)
  clear hn
  go_enter Try.func16, Try.ntmps16
  go_wp2_with fail
  refine (HO.out _).mono ?_
  rintro e w1 ⟨rfl, hb⟩
  go_wp2
  go_ret2
  exact ⟨rfl, hb.alloc hb.size _⟩
theorem implWalkTrees_yes (n s : Nat) (w : World) (h1 : 1 ≤ n) (h2 : n ≤ 11) (hs : s < 2 ^ n) (h0 : s.testBit 0 = false) :
    Calls Try.prog 16 #[.int .i64 (n:Int), .int .i64 (s:Int)] w fun e w' => e = .returned (.tuple #[.int .i64 (treeN n (bothN n s)), .bool true]) ∧ Below w.heap.size w w' := by
  have HO := Lib.hid (fun W => stepsOf_yes n s W h1 (by omega) hs h0)
  have HT := Lib.hid (fun W => trees_any n s W h1 h2 hs h0)
  have k1 : ¬ (11 : Int) < (n : Int) := by omega
  have k2 : decide ((11 : Int) < (n : Int)) = false := decide_eq_false k1
  have k3 : decide (11 < n) = false := decide_eq_false (by omega)
  go_enter Try.func16, Try.ntmps16
  go_wp2_with fail
  refine (HO.out _).mono ?_
  rintro e w1 ⟨rfl, hb⟩
  have HB := Lib.hid (hb.alloc hb.size (.cells #[.int .i64 (n:Int), .int .i64 (s:Int)] 41))
  clear hb
  go_wp2_with fail
  refine (HT.out _).mono ?_
  rintro e w2 ⟨rfl, hb2⟩
  have HB2 := Lib.hid (HB.out.trans (hb2.mono HB.out.size))
  clear hb2
  go_wp2
  go_ret2
  exact ⟨rfl, HB2.out⟩
end Go.Proofs.Ytookciehnjnmnaa
