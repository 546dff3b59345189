/- Called with any 2 integers and any list of integers whatever, FnExactRoundIs returns true, and its arguments read as before; no conditions. -/
import Derived.Test.YtkpjklgooneklaaRows
import Derived.Test.YtkpjklgooneklaaRoL
import Derived.Test.YtkpjklgooneklaaGB
import Derived.WalkKit
import Derived.ProofKit
import Derived.OpenShut
import Derived.ChangeSlices
import Derived.Carry
namespace Go.Proofs.Ytkpjklgooneklaa
open Go.ChangeShapes Go.WideShapes Go.ChangeAt Go.RowKit
set_option linter.unusedVariables false
theorem fnExactRoundIs_own : ownKnob Try.prog.godebug = none := by kernel_rfl
theorem fnExactRoundIs_laid : laidOutB Try.prog = true := by kernel_rfl
theorem fnExactRoundIs_cells : Try.prog.cellsOf 3 = 1 := by kernel_rfl
theorem fnExactRoundIs_readable : Try.prog.readableRec 22 = true := by kernel_rfl
theorem fnExactRoundIs_there : 22 < Try.prog.types.size := of_decide_eq_true (by kernel_rfl)
set_option maxRecDepth 100000 in
theorem fnExactRoundIs_lifted (os : Os) (started : os.Started) (H : Type) (enc : TypeId × Value → H) :
    ReturnsInHanded {} Try.checked os 3 .any (Rows.fnExactRoundIsSpec.pre6 enc Try.prog Try.f3 Rows.fnExactRoundIsRow.domain false) (Rows.fnExactRoundIsSpec.post enc Try.prog Try.f3 false true false false) := by
  refine returnsInHanded_of_change (C := Try.checked) fnExactRoundIs_own started (by kernel_rfl) Try.func3
    (ChangeSpec.witness6 (enc := enc) (C := Try.checked) false ⟨#[], #[.int .i64 0, .int .i64 0, .slice none 0 0], []⟩ 8 (by kernel_rfl) (by kernel_rfl) (by kernel_rfl) (by kernel_rfl)) ?_
  intro W base args ds gs before hval0 hW hcnd _
  have hval : ∀ (j : Nat) t v, Try.f3.params[j]? = some t → args[j]? = some v → Value.okWide Try.prog W .any base t v := hval0
  have hW' := hW
  obtain ⟨p, q, hA0, hV, rfl, hfz, hnd⟩ := hW
  have hA : DataW.TrodAll enc Try.prog W 0 (fun _ => true) true Try.f3.params.toList args.toList ds p := hA0
  rw [Try.params3] at hA hval
  obtain ⟨v0, vs0, d0, ds0, p0, q0, hargs, rfl, rfl, h0, r0⟩ := trodAll_cons hA
  obtain ⟨v1, vs1, d1, ds1, p1, q1, rfl, rfl, rfl, h1, r1⟩ := trodAll_cons r0
  obtain ⟨v2, vs2, d2, ds2, p2, q2, rfl, rfl, rfl, h2, r2⟩ := trodAll_cons r1
  obtain ⟨rfl, rfl, rfl⟩ := trodAll_nil r2
  obtain rfl : args = #[v0, v1, v2] := by cases args; simp_all
  obtain ⟨rfl, rfl⟩ := trodVars_none hV
  obtain ⟨a0, rfl, rfl, rfl, w0⟩ := open_int Try.underlying3 (hval 0 3 v0 rfl rfl) h0
  obtain ⟨a1, rfl, rfl, rfl, w1⟩ := open_int Try.underlying3 (hval 1 3 v1 rfl rfl) h1
  simp only [List.nil_append, List.append_nil] at hW'
  have hlt : ∀ x ∈ p2, x.block < W.heap.size := fun x hx => by simpa using hW'.lt x (by simpa using hx)
  have hLk := h2
  obtain ⟨sl, len, cap, rfl⟩ := okWide_slice Try.underlying22 (hval 2 22 v2 rfl rfl)
  obtain ⟨fuel, hf⟩ := h2
  clear hA0 hval0
  have walk : Calls Try.prog 3 #[.int .i64 a0, .int .i64 a1, .slice sl len cap] W fun e w' => e = .returned (.bool true) ∧ Below W.heap.size W w' := by
    rcases open_ints Try.underlying22 Try.underlying3 fnExactRoundIs_cells hf with ⟨hcs, hx⟩ | ⟨a, len', cap', zs, hcs, _, hl, hm, hz, hx, hcell, hwz⟩
    · simp [Value.cells] at hcs
      obtain ⟨rfl, rfl, rfl⟩ := hcs
      exact law_RoundIs a0 a1 W W.heap.size 0 0 none (fun _ => 0) (fun i hi => by omega) (Nat.le_refl _) (Nat.le_refl _) (by omega)
    · simp [Value.cells] at hcs
      obtain ⟨rfl, rfl, rfl⟩ := hcs
      simp only [if_true] at hz
      have hm' := hm
      unfold maxLen at hm'
      refine law_RoundIs a0 a1 W W.heap.size len cap (some a) (fun i => zs.getD i 0) (fun i hi => ?_) (Nat.le_refl _) hl hm'
      have hc := hcell i (by omega)
      refine ⟨a, rfl, ?_, hc⟩
      have := World.block_lt_of_cell? W _ hc
      rwa [addr_blk] at this
  refine walk.mono fun e W' ⟨he, hb⟩ => ?_
  subst he
  exact ⟨_, rfl, post_below (pa := p2) (pv := []) hW' (fun _ _ _ => (trodAll_cons_mk (shut_bool Try.underlying4 _) trodAll_mk0))
    (fun sp hsp => by
      have h1 := WideElems.Trod_stays (sp' := sp) fnExactRoundIs_laid fnExactRoundIs_readable fnExactRoundIs_there hLk (fun x hx => hb.same (hlt x hx)) (fun x hx => hsp x (by simpa using hx))
      have h2 := (trodAll_cons_mk (shut_int Try.underlying3 w0) (trodAll_cons_mk (shut_int Try.underlying3 w1) (trodAll_cons_mk h1 trodAll_mk0)))
      have h3 : DataW.TrodAll enc Try.prog W' 0 sp true [3, 3, 22] [.int .i64 a0, .int .i64 a1, .slice sl len cap] [.lit (.int .i64 a0), .lit (.int .i64 a1), d2] p2 := by simpa using h2
      exact h3) (fun _ _ => rfl) (by simp)
    hb (ok_one (by kernel_rfl) rfl (okWide_bool_mk Try.underlying4 _))⟩
theorem fnExactRoundIs_over : Rows.fnExactRoundIsRow.holds Try.pinned (OpenSpec.ofChange Rows.fnExactRoundIsSpec) :=
  OpenClaim.holds_of_wide 3 Try.f3 rfl rfl rfl rfl rfl rfl rfl ⟨rfl, rfl, rfl, rfl, rfl⟩ rfl rfl rfl rfl rfl (by kernel_rfl) Try.func3 (by kernel_rfl)
    (of_decide_eq_true (by kernel_rfl)) (by unfold Func.isWrapper; first | (rw [if_pos (by decide +kernel)]; kernel_rfl) | (rw [if_neg (by decide +kernel)]; exact ⟨rfl, rfl⟩))
    (fun os started H enc _ => fnExactRoundIs_lifted os started H enc)
theorem fnExactRoundIs_proved : Rows.FnExactRoundIsSaid :=
  fnExactRoundIs_over
end Go.Proofs.Ytkpjklgooneklaa
