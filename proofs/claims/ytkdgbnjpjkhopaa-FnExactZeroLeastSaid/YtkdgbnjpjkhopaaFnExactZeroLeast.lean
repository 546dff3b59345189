/- Called with any 1 integers and any list of integers whatever, FnExactZeroLeast returns true, and its arguments read as before; no conditions. -/
import Derived.Test.YtkdgbnjpjkhopaaRows
import Derived.Test.YtkdgbnjpjkhopaaZrpL
import Derived.WalkKit
import Derived.ProofKit
import Derived.OpenShut
import Derived.ChangeSlices
import Derived.Carry
namespace Go.Proofs.Ytkdgbnjpjkhopaa
open Go.ChangeShapes Go.WideShapes Go.ChangeAt Go.RowKit
set_option linter.unusedVariables false
theorem fnExactZeroLeast_own : ownKnob Try.prog.godebug = none := by kernel_rfl
theorem fnExactZeroLeast_laid : laidOutB Try.prog = true := by kernel_rfl
theorem fnExactZeroLeast_cells : Try.prog.cellsOf 3 = 1 := by kernel_rfl
theorem fnExactZeroLeast_readable : Try.prog.readableRec 23 = true := by kernel_rfl
theorem fnExactZeroLeast_there : 23 < Try.prog.types.size := of_decide_eq_true (by kernel_rfl)
set_option maxRecDepth 100000 in
theorem fnExactZeroLeast_lifted (os : Os) (started : os.Started) (H : Type) (enc : TypeId × Value → H) :
    ReturnsInHanded {} Try.checked os 5 .any (Rows.fnExactZeroLeastSpec.pre6 enc Try.prog Try.f5 Rows.fnExactZeroLeastRow.domain false) (Rows.fnExactZeroLeastSpec.post enc Try.prog Try.f5 false true false false) := by
  refine returnsInHanded_of_change (C := Try.checked) fnExactZeroLeast_own started (by kernel_rfl) Try.func5
    (ChangeSpec.witness6 (enc := enc) (C := Try.checked) false ⟨#[], #[.int .i64 0, .slice none 0 0], []⟩ 8 (by kernel_rfl) (by kernel_rfl) (by kernel_rfl) (by kernel_rfl)) ?_
  intro W base args ds gs before hval0 hW hcnd _
  have hval : ∀ (j : Nat) t v, Try.f5.params[j]? = some t → args[j]? = some v → Value.okWide Try.prog W .any base t v := hval0
  have hW' := hW
  obtain ⟨p, q, hA0, hV, rfl, hfz, hnd⟩ := hW
  have hA : DataW.TrodAll enc Try.prog W 0 (fun _ => true) true Try.f5.params.toList args.toList ds p := hA0
  rw [Try.params5] at hA hval
  obtain ⟨v0, vs0, d0, ds0, p0, q0, hargs, rfl, rfl, h0, r0⟩ := trodAll_cons hA
  obtain ⟨v1, vs1, d1, ds1, p1, q1, rfl, rfl, rfl, h1, r1⟩ := trodAll_cons r0
  obtain ⟨rfl, rfl, rfl⟩ := trodAll_nil r1
  obtain rfl : args = #[v0, v1] := by cases args; simp_all
  obtain ⟨rfl, rfl⟩ := trodVars_none hV
  obtain ⟨a0, rfl, rfl, rfl, w0⟩ := open_int Try.underlying3 (hval 0 3 v0 rfl rfl) h0
  simp only [List.nil_append, List.append_nil] at hW'
  have hlt : ∀ x ∈ p1, x.block < W.heap.size := fun x hx => by simpa using hW'.lt x (by simpa using hx)
  have hLk := h1
  obtain ⟨sl, len, cap, rfl⟩ := okWide_slice Try.underlying23 (hval 1 23 v1 rfl rfl)
  obtain ⟨fuel, hf⟩ := h1
  clear hA0 hval0
  have walk : Calls Try.prog 5 #[.int .i64 a0, .slice sl len cap] W fun e w' => e = .returned (.bool true) ∧ Below W.heap.size W w' := by
    rcases open_ints Try.underlying23 Try.underlying3 fnExactZeroLeast_cells hf with ⟨hcs, hx⟩ | ⟨a, len', cap', zs, hcs, _, hl, hm, hz, hx, hcell, hwz⟩
    · simp [Value.cells] at hcs
      obtain ⟨rfl, rfl, rfl⟩ := hcs
      exact law_ZeroLeast a0 W W.heap.size 0 0 none (fun _ => 0) (fun i hi => by omega) (Nat.le_refl _) (Nat.le_refl _) (by omega)
    · simp [Value.cells] at hcs
      obtain ⟨rfl, rfl, rfl⟩ := hcs
      simp only [if_true] at hz
      have hm' := hm
      unfold maxLen at hm'
      refine law_ZeroLeast a0 W W.heap.size len cap (some a) (fun i => zs.getD i 0) (fun i hi => ?_) (Nat.le_refl _) hl hm'
      have hc := hcell i (by omega)
      refine ⟨a, rfl, ?_, hc⟩
      have := World.block_lt_of_cell? W _ hc
      rwa [addr_blk] at this
  refine walk.mono fun e W' ⟨he, hb⟩ => ?_
  subst he
  exact ⟨_, rfl, post_below (pa := p1) (pv := []) hW' (fun _ _ _ => (trodAll_cons_mk (shut_bool Try.underlying4 _) trodAll_mk0))
    (fun sp hsp => by
      have h1 := WideElems.Trod_stays (sp' := sp) fnExactZeroLeast_laid fnExactZeroLeast_readable fnExactZeroLeast_there hLk (fun x hx => hb.same (hlt x hx)) (fun x hx => hsp x (by simpa using hx))
      have h2 := (trodAll_cons_mk (shut_int Try.underlying3 w0) (trodAll_cons_mk h1 trodAll_mk0))
      have h3 : DataW.TrodAll enc Try.prog W' 0 sp true [3, 23] [.int .i64 a0, .slice sl len cap] [.lit (.int .i64 a0), d1] p1 := by simpa using h2
      exact h3) (fun _ _ => rfl) (by simp)
    hb (ok_one (by kernel_rfl) rfl (okWide_bool_mk Try.underlying4 _))⟩
theorem fnExactZeroLeast_over : Rows.fnExactZeroLeastRow.holds Try.pinned (OpenSpec.ofChange Rows.fnExactZeroLeastSpec) :=
  OpenClaim.holds_of_wide 5 Try.f5 rfl rfl rfl rfl rfl rfl rfl ⟨rfl, rfl, rfl, rfl, rfl⟩ rfl rfl rfl rfl rfl (by kernel_rfl) Try.func5 (by kernel_rfl)
    (of_decide_eq_true (by kernel_rfl)) (by unfold Func.isWrapper; first | (rw [if_pos (by decide +kernel)]; kernel_rfl) | (rw [if_neg (by decide +kernel)]; exact ⟨rfl, rfl⟩))
    (fun os started H enc _ => fnExactZeroLeast_lifted os started H enc)
theorem fnExactZeroLeast_proved : Rows.FnExactZeroLeastSaid :=
  fnExactZeroLeast_over
end Go.Proofs.Ytkdgbnjpjkhopaa
