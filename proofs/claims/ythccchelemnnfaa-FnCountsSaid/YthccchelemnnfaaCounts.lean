/- RingCounts: the program, the model. -/
import Derived.Test.YthccchelemnnfaaInts
import Derived.Test.YthccchelemnnfaaSpecB
import Derived.Test.YthccchelemnnfaaHeld
import Derived.Laws.MakeOwn
import Derived.RegionTactic
namespace Go.Proofs.Ythccchelemnnfaa
open Go.RowKit Go.Shelf
set_option linter.unusedVariables false
def stepC (n v w : Nat) (xs : List Int) : List Int := xs.set ((v + w) % n) (xs.getD ((v + w) % n) 0 + 1)
/-- What one place of the first set adds, w places of the second one having been asked. -/
def rowC (n b v k : Nat) (xs : List Int) : List Int := overSet b (stepC n v) k xs
def countsN (n a b : Nat) (k : Nat) : List Int := overSet a (fun v xs => rowC n b v n xs) k (List.replicate n 0)
theorem Try.infoInt : (Try.prog.info? 3).map (fun i => (i.zero, i.size, i.bytes)) = some (some (.int .i64 0), 1, 8) := by kernel_rfl
theorem make_ints (n : Nat) (hn : n ≤ 1000) (w : World) :
    (Instr.makeSlice 30 (.int .i64 (n:Int)) (.int .i64 (n:Int))).run Try.prog w = .ok (.slice (some ⟨w.heap.size, 0, none⟩) n n) (w.alloc (.cells (madeCells #[.int .i64 0] n) 3)) := by
  obtain ⟨i0, hi, hz0, hz1, hz2⟩ := info_parts Try.infoInt
  have h := run_make (P := Try.prog) w 30 3 i0 _ Try.underlying30 hi hz0 .i64 .i64 (n:Int) (n:Int) (by omega) (Int.le_refl _) (by rw [hz2]; omega) (by omega)
  simp only [hz1, Nat.mul_one, Int.toNat_natCast] at h
  exact h
theorem made_ints (n : Nat) (hn : n ≤ 1000) (w : World) : IsInts (w.alloc (.cells (madeCells #[.int .i64 0] n) 3)) w.heap.size (.slice (some ⟨w.heap.size, 0, none⟩) n n) (List.replicate n 0) := by
  have h := World.ownsRow_lit (base := w.heap.size) (e := 3) (size := 1) w (madeCells #[.int .i64 0] n) n (Nat.le_refl _) (by unfold maxLen; omega) (by simpa using size_madeCells #[Value.int .i64 0] n)
  unfold IsInts
  rw [List.length_replicate]
  have e : (List.replicate n (0 : Int)).map (Value.int .i64) = (madeCells #[Value.int .i64 0] n).toList := by
    rw [toList_madeCells_one, List.map_replicate]
  rw [e]
  exact h
def Bd (c : Nat) (xs : List Int) : Prop := ∀ i : Nat, 0 ≤ xs.getD i 0 ∧ xs.getD i 0 ≤ (c : Int)
theorem Bd.mono {c d : Nat} {xs : List Int} (h : Bd c xs) (hd : c ≤ d) : Bd d xs := fun i => ⟨(h i).1, Int.le_trans (h i).2 (by omega)⟩
theorem getD_set_int (xs : List Int) (p i : Nat) (z : Int) : (xs.set p z).getD i 0 = if p = i ∧ p < xs.length then z else xs.getD i 0 := by
  rw [List.getD_eq_getElem?_getD, List.getElem?_set, List.getD_eq_getElem?_getD]
  by_cases h1 : p = i
  · subst h1
    by_cases h2 : p < xs.length
    · simp [h2]
    · simp [h2]
  · simp [h1]
theorem Bd.step {c n v w : Nat} {xs : List Int} (h : Bd c xs) : Bd (c + 1) (stepC n v w xs) := by
  intro i
  have h1 := h i
  have h2 := h ((v + w) % n)
  unfold stepC
  rw [getD_set_int]
  split <;> omega
theorem stepC_len (n v w : Nat) (xs : List Int) : (stepC n v w xs).length = xs.length := by simp [stepC]
theorem rowC_len (n b v k : Nat) (xs : List Int) : (rowC n b v k xs).length = xs.length := by
  induction k with
  | zero => rfl
  | succ k ih =>
    show (if b.testBit k then stepC n v k (rowC n b v k xs) else rowC n b v k xs).length = xs.length
    split
    · rw [stepC_len, ih]
    · exact ih
theorem rowC_bd {n b v k c : Nat} {xs : List Int} (h : Bd c xs) : Bd (c + k) (rowC n b v k xs) := by
  induction k with
  | zero => exact h
  | succ k ih =>
    show Bd (c + (k + 1)) (if b.testBit k then stepC n v k (rowC n b v k xs) else rowC n b v k xs)
    split
    · exact ih.step
    · exact ih.mono (by omega)
theorem countsN_succ (n a b j : Nat) : countsN n a b (j + 1) = if a.testBit j then rowC n b j n (countsN n a b j) else countsN n a b j := rfl
theorem countsN_len (n a b j : Nat) : (countsN n a b j).length = n := by
  induction j with
  | zero => simp [countsN, overSet, upto]
  | succ j ih =>
    rw [countsN_succ]
    split
    · rw [rowC_len, ih]
    · exact ih
theorem countsN_bd (n a b j : Nat) : Bd (n * j) (countsN n a b j) := by
  induction j with
  | zero =>
    intro i
    have : (countsN n a b 0).getD i 0 = 0 := by
      show (List.replicate n (0 : Int)).getD i 0 = 0
      rw [List.getD_eq_getElem?_getD, List.getElem?_replicate]
      split <;> rfl
    rw [this]; simp
  | succ j ih =>
    rw [countsN_succ]
    split
    · exact (rowC_bd ih).mono (by rw [Nat.mul_succ]; omega)
    · exact ih.mono (by rw [Nat.mul_succ]; omega)
/-- What the inner loop of the model has made. -/
def inC (n a b j k : Nat) : List Int := if a.testBit j then rowC n b j k (countsN n a b j) else countsN n a b j
theorem inC_len (n a b j k : Nat) : (inC n a b j k).length = n := by
  unfold inC; split
  · rw [rowC_len, countsN_len]
  · exact countsN_len n a b j
theorem inC_zero (n a b j : Nat) : inC n a b j 0 = countsN n a b j := by unfold inC; split <;> rfl
theorem inC_end (n a b j : Nat) : inC n a b j n = countsN n a b (j + 1) := rfl
theorem inC_yes (n a b j k : Nat) (ha : a.testBit j = true) (hb : b.testBit k = true) : inC n a b j (k + 1) = (inC n a b j k).set ((j + k) % n) ((inC n a b j k).getD ((j + k) % n) 0 + 1) := by
  simp [inC, ha, rowC, overSet, upto, hb, stepC]
theorem set_same (xs : List Int) (i : Nat) (z : Int) (h : xs.getD i 0 = z) (hi : i < xs.length) : xs.set i z = xs := by
  have e : z = xs[i] := by rw [← h, List.getD_eq_getElem?_getD, List.getElem?_eq_getElem hi]; rfl
  rw [e, List.set_getElem_self]
theorem inC_no (n a b j k : Nat) (h : ¬ (a.testBit j = true ∧ b.testBit k = true)) : inC n a b j (k + 1) = inC n a b j k := by
  unfold inC
  by_cases ha : a.testBit j = true
  · have hb : b.testBit k = false := by
      cases hb : b.testBit k
      · rfl
      · exact absurd ⟨ha, hb⟩ h
    simp [ha, rowC, overSet, upto, hb]
  · simp [ha]
theorem inC_bd (n a b j k : Nat) (hn : n ≤ 12) (hj : j < n) (hk : k ≤ n) : Bd 200 (inC n a b j k) := by
  have h0 := countsN_bd n a b j
  have hm : n * j ≤ 12 * 12 := Nat.mul_le_mul hn (by omega)
  unfold inC; split
  · exact (rowC_bd h0).mono (by omega)
  · exact h0.mono (by omega)
theorem bit_one {s v : Nat} (hs : s < 2 ^ 40) (h : s.testBit v = true) : bits .and .i64 ((s : Int) / 2 ^ v) 1 = 1 := by
  have := has_nat s v hs
  rw [h] at this
  exact eq_of_beq this
theorem bit_none {s v : Nat} (hs : s < 2 ^ 40) (h : s.testBit v = false) : bits .and .i64 ((s : Int) / 2 ^ v) 1 = 0 := by
  have := has_nat0 s v hs
  rw [h] at this
  exact eq_of_beq this
set_option maxHeartbeats 1000000 in
theorem specCounts_yes (n a b : Nat) (w : World) (h1 : 1 ≤ n) (h2 : n ≤ 12) (ha : a < 2 ^ n) (hb : b < 2 ^ n) :
    Calls Try.prog 18 #[.int .i64 (n:Int), .int .i64 (a:Int), .int .i64 (b:Int)] w fun e w' => e = .returned (.tuple #[.slice (some ⟨w.heap.size, 0, none⟩) n n, .bool true]) ∧ Below w.heap.size w w' ∧ IsInts w' w.heap.size (.slice (some ⟨w.heap.size, 0, none⟩) n n) (countsN n a b n) := by
  have hp := pow_le n h2
  have HI := Lib.hid (specIn_yes n a w h1 h2 ha)
  have HJ := Lib.hid (specIn_yes n b w h1 h2 hb)
  have hmk := make_ints n (by omega) w
  have HM := Lib.hid (made_ints n (by omega) w)
  go_enter Try.func18, Try.ntmps18
  go_wp2_with fail
  refine HI.out.mono ?_
  rintro e w' ⟨rfl, rfl⟩
  go_wp2_with fail
  refine HJ.out.mono ?_
  rintro e w' ⟨rfl, rfl⟩
  go_wp2
  have hB0 : Below w.heap.size w (w.alloc (.cells (madeCells #[.int .i64 0] n) 3)) := (Below.refl _ _).alloc (Nat.le_refl _) _
  obtain ⟨W0, hW0⟩ : ∃ W0, w.alloc (.cells (madeCells #[.int .i64 0] n) 3) = W0 := ⟨_, rfl⟩
  rw [hW0] at hB0 HM ⊢
  clear hW0 hmk
  go_loopw [9] (fun u wr => ∃ j : Nat, j ≤ n ∧ u = .int .i64 (j : Int) ∧ IsInts wr w.heap.size (.slice (some ⟨w.heap.size, 0, none⟩) n n) (countsN n a b j) ∧ Below w.heap.size w wr) (fun u _ => n - (intOf u).toNat)
  case atStart => exact ⟨0, Nat.zero_le _, rfl, HM.out, hB0⟩
  case round =>
    obtain ⟨j, hj, rfl, hI, hB⟩ := hrel
    have HI2 := Lib.hid hI
    clear hI HM hB0
    by_cases hlt : j < n
    · go_wp2
      obtain ⟨wo, rfl⟩ : ∃ wo : World, wo = wr := ⟨_, rfl⟩
      go_loopw [10] (fun u wi => ∃ k : Nat, k ≤ n ∧ u = .int .i64 (k : Int) ∧ IsInts wi w.heap.size (.slice (some ⟨w.heap.size, 0, none⟩) n n) (inC n a b j k) ∧ Below w.heap.size w wi) (fun u _ => n - (intOf u).toNat)
      case atStart => exact ⟨0, Nat.zero_le _, rfl, by rw [inC_zero]; exact HI2.out, hB⟩
      case round =>
        obtain ⟨k, hk, rfl, hI, hB2⟩ := hrel
        have HI3 := Lib.hid hI
        clear hI
        by_cases hlk : k < n
        · have hlen := inC_len n a b j k
          have hbd := inC_bd n a b j k h2 hlt (by omega) ((j + k) % n)
          obtain ⟨hz0, hz1⟩ := hbd
          have hml : (j + k) % n < n := Nat.mod_lt _ (by omega)
          have hcast : ((j : Int) + (k : Int)) % (n : Int) = (((j + k) % n : Nat) : Int) := by simp
          have c1 : wr.cell? ⟨w.heap.size, (j + k) % n, none⟩ = some (.int .i64 ((inC n a b j k).getD ((j + k) % n) 0)) := HI3.out.cell (by rw [hlen]; exact hml)
          have hI4 : IsInts wr w.heap.size (.slice (some ⟨w.heap.size, 0, none⟩) (inC n a b j k).length n) (inC n a b j k) := by rw [hlen]; exact HI3.out
          have f1 := hI4.frozen ((j + k) % n)
          have HI5 := Lib.hid hI4
          have HLen := Lib.hid hlen
          clear hI4 hlen
          have i1 : (0 : Int) ≤ ((j : Int) + (k : Int)) % (n : Int) := by omega
          have i2 : ((j : Int) + (k : Int)) % (n : Int) < (n : Int) := by omega
          have i3 : (0 : Int) ≤ ((j : Int) + (k : Int)) := by omega
          have HCast := Lib.hid hcast
          clear hcast
          have HNo := Lib.hid (fun h => inC_no n a b j k h)
          have HYes := Lib.hid (fun h h' => inC_yes n a b j k h h')
          have HSame := Lib.hid (fun z h => set_same (inC n a b j k) ((j + k) % n) z h (by rw [HLen.out]; exact hml))
          have hsz : w.heap.size < wr.heap.size := World.block_lt_of_cell? wr _ c1
          by_cases hab : a.testBit j = true ∧ b.testBit k = true
          · have e1 := bit_one (s := a) (v := j) (by omega) hab.1
            have e2 := bit_one (s := b) (v := k) (by omega) hab.2
            have HSet := Lib.hid (HYes.out hab.1 hab.2)
            clear hab
            obtain ⟨z, hz⟩ : ∃ z, (inC n a b j k).getD ((j + k) % n) 0 = z := ⟨_, rfl⟩
            rw [hz] at c1 hz0 hz1
            have HZ := Lib.hid hz
            clear hz
            go_wp2
            go_region
            go_wp2
            go_roundw
            case rel =>
              refine ⟨k + 1, by omega, by go_num, ?_, ?_⟩
              · have h3 := HI5.out.set ((j + k) % n) (z + 1)
                rw [List.length_set, HLen.out] at h3
                rw [HSet.out, HZ.out]
                exact h3
              · exact hB2.trans ⟨rfl, rfl, rfl, by simp [World.setCell], fun q hq => Below.heap_setCell wr ⟨w.heap.size, (j + k) % n, none⟩ _ q (by simp; omega)⟩
            case measure => simp [intOf]; omega
          · have HSet := Lib.hid (HNo.out hab)
            obtain ⟨z, hz⟩ : ∃ z, (inC n a b j k).getD ((j + k) % n) 0 = z := ⟨_, rfl⟩
            rw [hz] at c1 hz0 hz1
            have HZ := Lib.hid (HSame.out z hz)
            clear hz
            by_cases ha1 : a.testBit j = true
            · have hb1 : b.testBit k = false := by
                cases hb : b.testBit k
                · rfl
                · exact absurd ⟨ha1, hb⟩ hab
              have e1 := bit_one (s := a) (v := j) (by omega) ha1
              have e2 := bit_none (s := b) (v := k) (by omega) hb1
              clear hab ha1 hb1
              go_wp2
              go_region
              go_wp2
              go_roundw
              case rel =>
                refine ⟨k + 1, by omega, by go_num, ?_, ?_⟩
                · have h3 := HI5.out.set ((j + k) % n) z
                  rw [List.length_set, HLen.out, HZ.out] at h3
                  rw [HSet.out]
                  exact h3
                · exact hB2.trans ⟨rfl, rfl, rfl, by simp [World.setCell], fun q hq => Below.heap_setCell wr ⟨w.heap.size, (j + k) % n, none⟩ _ q (by simp; omega)⟩
              case measure => simp [intOf]; omega
            · have ha2 : a.testBit j = false := by simpa using ha1
              have e1 := bit_none (s := a) (v := j) (by omega) ha2
              clear hab ha1 ha2
              have hq0 : bits .and .i64 ((b : Int) / 2 ^ k) 1 = 0 ∨ bits .and .i64 ((b : Int) / 2 ^ k) 1 = 1 := by
                cases hb : b.testBit k
                · exact .inl (bit_none (by omega) hb)
                · exact .inr (bit_one (by omega) hb)
              rcases hq0 with e2 | e2
              all_goals
                go_wp2
                go_region
                go_wp2
                go_roundw
                case rel =>
                  refine ⟨k + 1, by omega, by go_num, ?_, ?_⟩
                  · have h3 := HI5.out.set ((j + k) % n) z
                    rw [List.length_set, HLen.out, HZ.out] at h3
                    rw [HSet.out]
                    exact h3
                  · exact hB2.trans ⟨rfl, rfl, rfl, by simp [World.setCell], fun q hq => Below.heap_setCell wr ⟨w.heap.size, (j + k) % n, none⟩ _ q (by simp; omega)⟩
                case measure => simp [intOf]; omega
        · have e : k = n := by omega
          subst e
          have HE := Lib.hid (inC_end k a b j)
          go_wp2
          go_roundw
          case rel => exact ⟨j + 1, by omega, by go_num, by rw [← HE.out]; exact HI3.out, hB2⟩
          case measure => simp [intOf]; omega
    · have e : j = n := by omega
      subst e
      go_wp2
      go_ret2
      exact ⟨rfl, hB, HI2.out⟩
end Go.Proofs.Ythccchelemnnfaa
