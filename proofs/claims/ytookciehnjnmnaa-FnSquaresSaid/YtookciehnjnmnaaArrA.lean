/- Walks as arrays: the program's small functions. -/
import Derived.Test.YtookciehnjnmnaaArr
import Derived.Test.YtookciehnjnmnaaGC
import Derived.Deep.RegionHeld
namespace Go.Proofs.Ytookciehnjnmnaa
open Go.RowKit Go.Shelf
set_option linter.unusedVariables false
theorem zero_arr : #[Value.int .i64 0, .int .i64 0, .int .i64 0, .int .i64 0, .int .i64 0, .int .i64 0, .int .i64 0, .int .i64 0, .int .i64 0, .int .i64 0, .int .i64 0, .int .i64 0] = arrC (fun _ => 0) := rfl
theorem one_arr : #[Value.int .i64 1, .int .i64 0, .int .i64 0, .int .i64 0, .int .i64 0, .int .i64 0, .int .i64 0, .int .i64 0, .int .i64 0, .int .i64 0, .int .i64 0, .int .i64 0] = arrC (fun x => if x = 0 then 1 else 0) := rfl
/-- The first i numbers told by 0 or 1. -/
def mkA (f : Nat → Nat) (i x : Nat) : Nat := if x < i then min (f x) 1 else f x
theorem mkA_step (f : Nat → Nat) (i z : Nat) (hz : z = min (f i) 1) (x : Nat) : (if x = i then z else mkA f i x) = mkA f (i + 1) x := by
  unfold mkA
  by_cases e : x = i
  · subst e; simp [hz]
  · by_cases c : x < i
    · simp [e, c, show x < i + 1 by omega]
    · simp [e, c, show ¬ x < i + 1 by omega]
set_option maxHeartbeats 1000000 in
theorem wmarks_any (f : Nat → Nat) (w : World) :
    Calls Try.prog 75 #[.agg (arrC f)] w fun e w' => e = .returned (.agg (arrC fun x => min (f x) 1)) ∧ Below w.heap.size w w' := by
  have hA := (Arr.new w 58 f).alloc (.cells (arrC fun _ => 0) 58)
  have hR := Arr.new (w.alloc (.cells (arrC f) 58)) 58 (fun _ => 0)
  rw [World.size_alloc] at hR
  have hB : Below w.heap.size w ((w.alloc (.cells (arrC f) 58)).alloc (.cells (arrC fun _ => 0) 58)) := ((Below.refl _ _).alloc (Nat.le_refl _) _).alloc (by simp) _
  rw [← zero_arr] at hA hR hB
  have HA := Lib.hid hA
  have HB := Lib.hid hB
  have HR := Lib.hid hR
  clear hA hB hR
  have HS := Lib.hid (fun i z hz x => mkA_step f i z hz x)
  have HE : Hid (∀ W, Arr W w.heap.size 58 (mkA f 12) → Arr W w.heap.size 58 (fun x => min (f x) 1)) := Lib.hid (fun W h => h.congr fun x hx => by unfold mkA; rw [if_pos hx])
  have HI := Lib.hid (fun i hi W => run_idxArr f i hi W)
  go_enter Try.func75, Try.ntmps75
  go_wp2_with (first
    | (refine wpList_loadArr _ rfl _ rfl w.heap.size 58 f rfl HA.out ?_)
    | go_in)
  obtain ⟨W0, hW0⟩ : ∃ W0, ((w.alloc (.cells (arrC f) 58)).alloc (.cells #[.int .i64 0, .int .i64 0, .int .i64 0, .int .i64 0, .int .i64 0, .int .i64 0, .int .i64 0, .int .i64 0, .int .i64 0, .int .i64 0, .int .i64 0, .int .i64 0] 58)) = W0 := ⟨_, rfl⟩
  rw [hW0] at HA HB HR ⊢
  clear hW0
  go_loopw [6] (fun u wr => ∃ i : Nat, i ≤ 12 ∧ u = .int .i64 (i : Int) ∧ Arr wr w.heap.size 58 (mkA f i) ∧ Arr wr (w.heap.size + 1) 58 (fun _ => 0) ∧ Below w.heap.size w wr) (fun u _ => 12 - (intOf u).toNat)
  case atStart => exact ⟨0, Nat.zero_le _, rfl, HA.out.congr (fun x _ => by simp [mkA]), HR.out, HB.out⟩
  case round =>
    obtain ⟨i, hi, rfl, hA, hR, hB⟩ := hrel
    clear HA HR HB
    have HA := Lib.hid hA
    have HB := Lib.hid hB
    have HR := Lib.hid hR
    clear hA hB hR
    by_cases hlt : i < 12
    · have hidx := HI.out i hlt
      have hc := HA.out.cell i hlt
      have hf := HA.out.frozen i
      have hst : ∀ z, z = min (f i) 1 → Hid (Arr (wr.setCell ⟨w.heap.size, i, none⟩ (.int .i64 ((z : Nat) : Int))) w.heap.size 58 (mkA f (i + 1))) := fun z hz => Lib.hid ((HA.out.set i z hlt).congr fun x _ => HS.out i z hz x)
      have HR2 : Hid (∀ v, Arr (wr.setCell ⟨w.heap.size, i, none⟩ v) (w.heap.size + 1) 58 (fun _ => 0)) := Lib.hid (fun v => HR.out.other ⟨w.heap.size, i, none⟩ (by simp) v)
      have HB2 : Hid (∀ v, Below w.heap.size w (wr.setCell ⟨w.heap.size, i, none⟩ v)) := Lib.hid (fun v => HB.out.setCell (p := ⟨w.heap.size, i, none⟩) (by simp) v)
      have j1 : (0 : Int) ≤ (i : Int) := by omega
      have j2 : (i : Int) < 12 := by omega
      rw [show mkA f i i = f i by simp [mkA]] at hc
      generalize f i = a at *
      by_cases hle : 1 < a
      · have e : (1 : Int) < (a : Int) := by omega
        have H1 := hst 1 (by omega)
        clear hst hle
        go_wp2
        go_roundw
        case rel => exact ⟨i + 1, by omega, by go_num, H1.out, HR2.out _, HB2.out _⟩
        case measure => simp [intOf]; omega
      · have e : ¬ (1 : Int) < (a : Int) := by omega
        have H1 := hst a (by omega)
        clear hst hle
        go_wp2
        go_roundw
        case rel => exact ⟨i + 1, by omega, by go_num, H1.out, HR2.out _, HB2.out _⟩
        case measure => simp [intOf]; omega
    · obtain rfl : i = 12 := by omega
      have HA2 := Lib.hid (HE.out wr HA.out)
      have HR2 := Lib.hid (HR.out.row (fun x => min (f x) 1))
      have HB2 := Lib.hid (row_below HB.out (show w.heap.size ≤ w.heap.size + 1 by omega) (fun x => min (f x) 1))
      go_wp2_with (first
        | (refine wpList_loadArr _ rfl _ rfl w.heap.size 58 (fun x => min (f x) 1) rfl HA2.out ?_)
        | (refine wpList_storeArr _ rfl _ _ rfl (w.heap.size + 1) 58 _ (fun x => min (f x) 1) rfl rfl HR.out ?_)
        | go_in)
      have hl := HR2.out.loadVar
      refine bodyPost_ret (v := .agg (arrC fun x => min (f x) 1)) ?_ rfl ⟨rfl, HB2.out⟩
      rw [results_cell1 rfl]
      simp [asAddr, Result.andThen, hl, Act.put]
theorem noArcs_any (w : World) :
    Calls Try.prog 73 #[] w fun e w' => e = .returned (.agg (arrC fun x => if x = 0 then 1 else 0)) ∧ Below w.heap.size w w' := by
  have hR := Arr.new w 58 (fun x => if x = 0 then 1 else 0)
  rw [← one_arr] at hR
  have hl := hR.loadVar
  go_enter Try.func73, Try.ntmps73
  go_wp2
  refine bodyPost_ret (v := .agg (arrC (fun x => if x = 0 then 1 else 0))) ?_ rfl ⟨rfl, (Below.refl _ _).alloc (Nat.le_refl _) _⟩
  rw [results_cell1 rfl]
  simp [asAddr, Result.andThen, hl]
end Go.Proofs.Ytookciehnjnmnaa
