/- Lists of integers that came in: what a law reads of them, and its copy. -/
import Derived.Test.YtgcfgegbbfbaaaaGC
import Derived.Test.YtgcfgegbbfbaaaaGD
namespace Go.Proofs.Ytgcfgegbbfbaaaa
open Go.RowKit Go.Shelf
set_option linter.unusedVariables false
theorem addr_blk (a : Addr) (n : Nat) : (a.add n).block = a.block := by unfold Addr.add; split <;> rfl
/-- The numbers of a list that came in. -/
def Came (W : World) (B : Nat) (A : Option Addr) (len : Nat) (z : Nat → Int) : Prop := ∀ i, i < len → ∃ ad : Addr, A = some ad ∧ ad.block < B ∧ W.cell? (ad.add i) = some (.int .i64 (z i))
theorem Came.below {W W' : World} {B : Nat} {A : Option Addr} {len : Nat} {z : Nat → Int} (h : Came W B A len z) (hb : Below B W W') : Came W' B A len z := fun i hi => by
  obtain ⟨ad, e, hl, hc⟩ := h i hi
  exact ⟨ad, e, hl, (hb.cell (by rw [addr_blk]; exact hl)).trans hc⟩
theorem make_big (n : Nat) (hn : n ≤ 1048576) (w : World) :
    (Instr.makeSlice 22 (.int .i64 (n:Int)) (.int .i64 (n:Int))).run Try.prog w = .ok (.slice (some ⟨w.heap.size, 0, none⟩) n n) (w.alloc (.cells (madeCells #[.int .i64 0] n) 3)) := by
  obtain ⟨i0, hi, hz0, hz1, hz2⟩ := info_parts Try.infoInt
  have h := run_make (P := Try.prog) w 22 3 i0 _ Try.underlying22 hi hz0 .i64 .i64 (n:Int) (n:Int) (by omega) (Int.le_refl _) (by rw [hz2]; omega) (by omega)
  simp only [hz1, Nat.mul_one, Int.toNat_natCast] at h
  exact h
theorem made_big (n : Nat) (hn : n ≤ 1048576) (w : World) : IsInts (w.alloc (.cells (madeCells #[.int .i64 0] n) 3)) w.heap.size (.slice (some ⟨w.heap.size, 0, none⟩) n n) (tabI n (fun _ => 0)) := by
  have h := World.ownsRow_lit (base := w.heap.size) (e := 3) (size := 1) w (madeCells #[.int .i64 0] n) n (Nat.le_refl _) (by unfold maxLen; omega) (by simpa using size_madeCells #[Value.int .i64 0] n)
  unfold IsInts
  rw [tabI_len]
  have e : (tabI n (fun _ => (0 : Int))).map (Value.int .i64) = (madeCells #[Value.int .i64 0] n).toList := by
    rw [toList_madeCells_one]
    simp [tabI, List.map_const']
  rw [e]
  exact h
/-- What has been copied ahead of place i. -/
def copyN (z : Nat → Int) (i j : Nat) : Int := if j < i then z j else 0
set_option maxHeartbeats 1000000 in
theorem toInts_any (W w : World) (B len cap : Nat) (A : Option Addr) (z : Nat → Int) (hC : Came w B A len z) (hB : B ≤ w.heap.size) (hl : len ≤ 1048576) :
    Calls Try.prog 10 #[.slice A len cap] w fun e w' => ∃ sv, e = .returned sv ∧ Below w.heap.size w w' ∧ IsInts w' w.heap.size sv (tabI len z) := by
  have hmk := make_big len hl
  have HM := Lib.hid ((made_big len hl w))
  have HC := Lib.hid (hC.below ((Below.refl B w).alloc hB (.cells (madeCells #[.int .i64 0] len) 3)))
  have HB0 := Lib.hid ((Below.refl w.heap.size w).alloc (Nat.le_refl _) (.cells (madeCells #[.int .i64 0] len) 3))
  clear hC
  go_enter Try.func10, Try.ntmps10
  go_wp2
  have HM0 : Hid (IsInts (w.alloc (.cells (madeCells #[.int .i64 0] len) 3)) w.heap.size (.slice (some ⟨w.heap.size, 0, none⟩) len len) (tabI len (copyN z 0))) := Lib.hid (by
    rw [tabI_congr len (copyN z 0) (fun _ => 0) (fun x _ => by unfold copyN; rw [if_neg (by omega)])]
    exact HM.out)
  obtain ⟨h, hh⟩ : ∃ h, w.heap.size = h := ⟨_, rfl⟩
  obtain ⟨W0, hW0⟩ : ∃ W0, w.alloc (.cells (madeCells #[.int .i64 0] len) 3) = W0 := ⟨_, rfl⟩
  rw [hh, hW0] at HM0 HB0
  rw [hW0] at HC
  rw [hW0, hh]
  rw [hh] at hB
  have HH := Lib.hid hh
  clear hW0 HM hmk hh
  have HCp : Hid (∀ i j, i < len → (if j = i then z i else copyN z i j) = copyN z (i + 1) j) := Lib.hid (fun i j hi => by
    unfold copyN
    by_cases e : j = i
    · subst e; rw [if_pos rfl, if_pos (by omega)]
    · rw [if_neg e]
      by_cases c : j < i
      · rw [if_pos c, if_pos (by omega)]
      · rw [if_neg c, if_neg (by omega)])
  have HEnd : Hid (tabI len (copyN z len) = tabI len z) := Lib.hid (tabI_congr len _ _ (fun x hx => by unfold copyN; rw [if_pos hx]))
  go_loopw [4] (fun u wr => ∃ i : Nat, i ≤ len ∧ u = .int .i64 (i : Int) ∧ IsInts wr h (.slice (some ⟨h, 0, none⟩) len len) (tabI len (copyN z i)) ∧ Came wr B A len z ∧ Below h w wr) (fun u _ => len - (intOf u).toNat)
  case atStart => exact ⟨0, Nat.zero_le _, rfl, HM0.out, HC.out, HB0.out⟩
  case round =>
    obtain ⟨i, hi, rfl, hI, hCm, hBl⟩ := hrel
    clear HM0 HC HB0
    by_cases hlt : i < len
    · obtain ⟨ad, rfl, hlb, hc⟩ := hCm i hlt
      have hlen := tabI_len len (copyN z i)
      have co := hI.cell (i := i) (by rw [hlen]; exact hlt)
      have hI' : IsInts wr h (.slice (some ⟨h, 0, none⟩) (tabI len (copyN z i)).length len) (tabI len (copyN z i)) := by rw [hlen]; exact hI
      have fo := hI'.frozen i
      have h3 := hI'.set i (z i)
      rw [tabI_set, tabI_len, tabI_congr len _ (copyN z (i + 1)) (fun x _ => HCp.out i x hlt)] at h3
      have HI3 := Lib.hid h3
      have HC3 := Lib.hid (hCm.below (Below.setCell (Below.refl B wr) (p := ⟨h, i, none⟩) hB (.int .i64 (z i))))
      have HB3 := Lib.hid (hBl.setCell (p := ⟨h, i, none⟩) (Nat.le_refl h) (.int .i64 (z i)))
      generalize (tabI len (copyN z i)).getD i 0 = y at co
      have i1 : (0 : Int) ≤ (i : Int) := by omega
      have i2 : (i : Int) < (len : Int) := by omega
      generalize z i = zi at *
      clear h3 hI' hI hCm hBl hlen
      go_wp2
      go_roundw
      case rel => exact ⟨i + 1, by omega, by go_num, HI3.out, HC3.out, HB3.out⟩
      case measure => simp [intOf]; omega
    · obtain rfl : i = len := by omega
      have HI3 := Lib.hid hI
      have HB3 := Lib.hid hBl
      clear hI hBl hCm
      go_wp2
      go_ret
      rw [HH.out]
      exact ⟨_, rfl, HB3.out, by rw [← HEnd.out]; exact HI3.out⟩
end Go.Proofs.Ytgcfgegbbfbaaaa
