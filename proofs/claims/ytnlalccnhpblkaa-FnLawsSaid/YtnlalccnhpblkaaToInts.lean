/- Lists of integers that came in: what a law reads of them, and its copy. -/
import Derived.Test.YtnlalccnhpblkaaGC
import Derived.Test.YtnlalccnhpblkaaGD
namespace Go.Proofs.Ytnlalccnhpblkaa
open Go.RowKit Go.Shelf
set_option linter.unusedVariables false
theorem addr_blk (a : Addr) (n : Nat) : (a.add n).block = a.block := by unfold Addr.add; split <;> rfl
/-- The numbers of a list that came in. -/
def Came (W : World) (B : Nat) (A : Option Addr) (len : Nat) (z : Nat → Int) : Prop := ∀ i, i < len → ∃ ad : Addr, A = some ad ∧ ad.block < B ∧ W.cell? (ad.add i) = some (.int .i64 (z i))
theorem Came.below {W W' : World} {B : Nat} {A : Option Addr} {len : Nat} {z : Nat → Int} (h : Came W B A len z) (hb : Below B W W') : Came W' B A len z := fun i hi => by
  obtain ⟨ad, e, hl, hc⟩ := h i hi
  exact ⟨ad, e, hl, (hb.cell (by rw [addr_blk]; exact hl)).trans hc⟩
theorem make_big (n : Nat) (hn : n ≤ 1048576) (w : World) :
    (Instr.makeSlice 23 (.int .i64 (n:Int)) (.int .i64 (n:Int))).run Try.prog w = .ok (.slice (some ⟨w.heap.size, 0, none⟩) n n) (w.alloc (.cells (madeCells #[.int .i64 0] n) 3)) := by
  obtain ⟨i0, hi, hz0, hz1, hz2⟩ := info_parts Try.infoInt
  have h := run_make (P := Try.prog) w 23 3 i0 _ Try.underlying23 hi hz0 .i64 .i64 (n:Int) (n:Int) (by omega) (Int.le_refl _) (by rw [hz2]; omega) (by omega)
  simp only [hz1, Nat.mul_one, Int.toNat_natCast] at h
  exact h
theorem made_big (n : Nat) (hn : n ≤ 1048576) (w : World) : IsInts (w.alloc (.cells (madeCells #[.int .i64 0] n) 3)) w.heap.size (.slice (some ⟨w.heap.size, 0, none⟩) n n) (tabI n (fun _ => 0)) := by
  have h := World.ownsRow_lit (base := w.heap.size) (e := 3) (size := 1) w (madeCells #[.int .i64 0] n) n (Nat.le_refl _) (by unfold maxLen; omega) (by simpa using size_madeCells #[Value.int .i64 0] n)
  unfold IsInts
  rw [tabI_len]
  have e : (tabI n (fun _ => (0 : Int))).map (Value.int .i64) = (madeCells #[Value.int .i64 0] n).toList := by
    rw [toList_madeCells_one]
    simp [tabI, List.map_const']
  rw [e]
  exact h
/-- What has been copied ahead of place i. -/
def copyN (z : Nat → Int) (i j : Nat) : Int := if j < i then z j else 0
end Go.Proofs.Ytnlalccnhpblkaa
