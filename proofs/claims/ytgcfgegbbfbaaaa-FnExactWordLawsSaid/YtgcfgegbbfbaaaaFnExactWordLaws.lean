/- Called with any integers, any texts and any list of integers whatever, FnExactWordLaws returns true, and its arguments read as before; no conditions. -/
import Derived.Test.YtgcfgegbbfbaaaaRows
import Derived.Test.YtgcfgegbbfbaaaaWrpL
import Derived.WalkKit
import Derived.ProofKit
import Derived.OpenShut
import Derived.ChangeSlices
import Derived.Carry
import Derived.ChangeMaps5
namespace Go.Proofs.Ytgcfgegbbfbaaaa
open Go.ChangeShapes Go.WideShapes Go.ChangeAt Go.RowKit Go.ChangeMaps
set_option linter.unusedVariables false
theorem fnExactWordLaws_own : ownKnob Try.prog.godebug = none := by kernel_rfl
theorem fnExactWordLaws_laid : laidOutB Try.prog = true := by kernel_rfl
theorem fnExactWordLaws_cells : Try.prog.cellsOf 3 = 1 := by kernel_rfl
theorem fnExactWordLaws_readable : Try.prog.readableRec 22 = true := by kernel_rfl
theorem fnExactWordLaws_there : 22 < Try.prog.types.size := of_decide_eq_true (by kernel_rfl)
set_option maxRecDepth 100000 in
theorem fnExactWordLaws_lifted (os : Os) (started : os.Started) (H : Type) (enc : TypeId × Value → H) :
    ReturnsInHanded {} Try.checked os 7 .any (Rows.fnExactWordLawsSpec.pre6 enc Try.prog Try.f7 Rows.fnExactWordLawsRow.domain false) (Rows.fnExactWordLawsSpec.post enc Try.prog Try.f7 false true false false) := by
  refine returnsInHanded_of_change (C := Try.checked) fnExactWordLaws_own started (by kernel_rfl) Try.func7
    (ChangeSpec.witness6 (enc := enc) (C := Try.checked) false ⟨#[], #[.int .i64 0, .slice none 0 0, .int .i64 0], []⟩ 8 (by kernel_rfl) (by kernel_rfl) (by kernel_rfl) (by kernel_rfl)) ?_
  intro W base args ds gs before hval0 hW hcnd _
  have hval : ∀ (j : Nat) t v, Try.f7.params[j]? = some t → args[j]? = some v → Value.okWide Try.prog W .any base t v := hval0
  have hW' := hW
  obtain ⟨p, q, hA0, hV, rfl, hfz, hnd⟩ := hW
  have hA : DataW.TrodAll enc Try.prog W 0 (fun _ => true) true Try.f7.params.toList args.toList ds p := hA0
  rw [Try.params7] at hA hval
  obtain ⟨v0, vs0, d0, ds0, p0, q0, hargs, rfl, rfl, h0, r0⟩ := trodAll_cons hA
  obtain ⟨v1, vs1, d1, ds1, p1, q1, rfl, rfl, rfl, h1, r1⟩ := trodAll_cons r0
  obtain ⟨v2, vs2, d2, ds2, p2, q2, rfl, rfl, rfl, h2, r2⟩ := trodAll_cons r1
  obtain ⟨rfl, rfl, rfl⟩ := trodAll_nil r2
  obtain rfl : args = #[v0, v1, v2] := by cases args; simp_all
  obtain ⟨rfl, rfl⟩ := trodVars_none hV
  obtain ⟨a0, rfl, rfl, rfl, w0⟩ := open_int Try.underlying3 (hval 0 3 v0 rfl rfl) h0
  obtain ⟨a2, rfl, rfl, rfl, w2⟩ := open_int Try.underlying3 (hval 2 3 v2 rfl rfl) h2
  simp only [List.nil_append, List.append_nil] at hW'
  have hlt : ∀ x ∈ p1, x.block < W.heap.size := fun x hx => by simpa using hW'.lt x (by simpa using hx)
  have hLk := h1
  obtain ⟨sl, len, cap, rfl⟩ := okWide_slice Try.underlying22 (hval 1 22 v1 rfl rfl)
  obtain ⟨fuel, hf⟩ := h1
  clear hA0 hval0
  have walk : Calls Try.prog 7 #[.int .i64 a0, .slice sl len cap, .int .i64 a2] W fun e w' => e = .returned (.bool true) ∧ Below W.heap.size W w' := by
    rcases open_ints Try.underlying22 Try.underlying3 fnExactWordLaws_cells hf with ⟨hcs, hx⟩ | ⟨a, len', cap', zs, hcs, _, hl, hm, hz, hx, hcell, hwz⟩
    · simp [Value.cells] at hcs
      obtain ⟨rfl, rfl, rfl⟩ := hcs
      exact law_WordLaws a0 a2 W W.heap.size 0 0 none (fun _ => 0) (fun i hi => by omega) (Nat.le_refl _) (Nat.le_refl _) (by omega)
    · simp [Value.cells] at hcs
      obtain ⟨rfl, rfl, rfl⟩ := hcs
      simp only [if_true] at hz
      have hm' := hm
      unfold maxLen at hm'
      refine law_WordLaws a0 a2 W W.heap.size len cap (some a) (fun i => zs.getD i 0) (fun i hi => ?_) (Nat.le_refl _) hl hm'
      have hc := hcell i (by omega)
      refine ⟨a, rfl, ?_, hc⟩
      have := World.block_lt_of_cell? W _ hc
      rwa [addr_blk] at this
  refine walk.mono fun e W' ⟨he, hb⟩ => ?_
  subst he
  exact ⟨_, rfl, post_below (pa := p1) (pv := []) hW' (fun _ _ _ => (trodAll_cons_mk (shut_bool Try.underlying4 _) trodAll_mk0))
    (fun sp hsp => by
      have h1 := WideElems.Trod_stays (sp' := sp) fnExactWordLaws_laid fnExactWordLaws_readable fnExactWordLaws_there hLk (fun x hx => hb.same (hlt x hx)) (fun x hx => hsp x (by simpa using hx))
      have h2 := (trodAll_cons_mk (shut_int Try.underlying3 w0) (trodAll_cons_mk h1 (trodAll_cons_mk (shut_int Try.underlying3 w2) trodAll_mk0)))
      have h3 : DataW.TrodAll enc Try.prog W' 0 sp true [3, 22, 3] [.int .i64 a0, .slice sl len cap, .int .i64 a2] [.lit (.int .i64 a0), d1, .lit (.int .i64 a2)] p1 := by simpa using h2
      exact h3) (fun _ _ => rfl) (by simp)
    hb (ok_one (by kernel_rfl) rfl (okWide_bool_mk Try.underlying4 _))⟩
theorem fnExactWordLaws_over : Rows.fnExactWordLawsRow.holds Try.pinned (OpenSpec.ofChange Rows.fnExactWordLawsSpec) :=
  OpenClaim.holds_of_wide 7 Try.f7 rfl rfl rfl rfl rfl rfl rfl ⟨rfl, rfl, rfl, rfl, rfl⟩ rfl rfl rfl rfl rfl (by kernel_rfl) Try.func7 (by kernel_rfl)
    (of_decide_eq_true (by kernel_rfl)) (by unfold Func.isWrapper; first | (rw [if_pos (by decide +kernel)]; kernel_rfl) | (rw [if_neg (by decide +kernel)]; exact ⟨rfl, rfl⟩))
    (fun os started H enc _ => fnExactWordLaws_lifted os started H enc)
theorem fnExactWordLaws_proved : Rows.FnExactWordLawsSaid :=
  fnExactWordLaws_over
end Go.Proofs.Ytgcfgegbbfbaaaa
