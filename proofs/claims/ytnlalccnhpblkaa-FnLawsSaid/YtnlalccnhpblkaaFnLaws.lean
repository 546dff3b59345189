/- Called with any list of bytes whatever, FnLaws returns true, and the list reads as before; no conditions. -/
import Derived.Test.YtnlalccnhpblkaaRows
import Derived.Test.YtnlalccnhpblkaaPWrpE
import Derived.Test.YtnlalccnhpblkaaGB
import Derived.WalkKit
import Derived.ProofKit
import Derived.OpenShut
import Derived.ChangeSlices
import Derived.Carry
namespace Go.Proofs.Ytnlalccnhpblkaa
open Go.ChangeShapes Go.WideShapes Go.ChangeAt Go.RowKit
set_option linter.unusedVariables false
theorem fnLaws_own : ownKnob Try.prog.godebug = none := by kernel_rfl
theorem fnLaws_laid : laidOutB Try.prog = true := by kernel_rfl
theorem fnLaws_cells : Try.prog.cellsOf 5 = 1 := by kernel_rfl
theorem fnLaws_readable : Try.prog.readableRec 22 = true := by kernel_rfl
theorem fnLaws_there : 22 < Try.prog.types.size := of_decide_eq_true (by kernel_rfl)
set_option maxRecDepth 100000 in
theorem fnLaws_lifted (os : Os) (started : os.Started) (H : Type) (enc : TypeId × Value → H) :
    ReturnsInHanded {} Try.checked os 6 .any (Rows.fnLawsSpec.pre6 enc Try.prog Try.f6 Rows.fnLawsRow.domain false) (Rows.fnLawsSpec.post enc Try.prog Try.f6 false true false false) := by
  refine returnsInHanded_of_change (C := Try.checked) fnLaws_own started (by kernel_rfl) Try.func6
    (ChangeSpec.witness6 (enc := enc) (C := Try.checked) false ⟨#[], #[.slice none 0 0], []⟩ 8 (by kernel_rfl) (by kernel_rfl) (by kernel_rfl) (by kernel_rfl)) ?_
  intro W base args ds gs before hval0 hW hcnd _
  have hval : ∀ (j : Nat) t v, Try.f6.params[j]? = some t → args[j]? = some v → Value.okWide Try.prog W .any base t v := hval0
  have hW' := hW
  obtain ⟨p, q, hA0, hV, rfl, hfz, hnd⟩ := hW
  have hA : DataW.TrodAll enc Try.prog W 0 (fun _ => true) true Try.f6.params.toList args.toList ds p := hA0
  rw [Try.params6] at hA hval
  obtain ⟨v0, vs0, d0, ds0, p0, q0, hargs, rfl, rfl, h0, r0⟩ := trodAll_cons hA
  obtain ⟨rfl, rfl, rfl⟩ := trodAll_nil r0
  obtain rfl : args = #[v0] := by cases args; simp_all
  obtain ⟨rfl, rfl⟩ := trodVars_none hV
  have hlt : ∀ x ∈ p0, x.block < W.heap.size := fun x hx => by simpa using hW'.lt x (by simpa using hx)
  have h0k := h0
  obtain ⟨a0, len, cap, rfl⟩ := okWide_slice Try.underlying22 (hval 0 22 v0 rfl rfl)
  obtain ⟨fuel, hf⟩ := h0
  clear hA0 hval0
  simp only [List.append_nil] at hW'
  have walk : Calls Try.prog 6 #[.slice a0 len cap] W fun e w' => e = .returned (.bool true) ∧ Below W.heap.size W w' := by
    rcases open_ints Try.underlying22 Try.underlying5 fnLaws_cells hf with ⟨hcs, hx⟩ | ⟨a, len', cap', zs, hcs, _, hl, hm, hz, hx, hcell, hwz⟩
    · simp [Value.cells] at hcs
      obtain ⟨rfl, rfl, rfl⟩ := hcs
      exact law_PLaws W W.heap.size 0 0 none (fun _ => 0) ⟨fun _ => by omega, fun i hi => by omega⟩ (Nat.le_refl _) (Nat.le_refl _) (by omega)
    · simp [Value.cells] at hcs
      obtain ⟨rfl, rfl, rfl⟩ := hcs
      simp only [if_true] at hz
      have hr : ∀ i, 0 ≤ zs.getD i 0 ∧ zs.getD i 0 ≤ 255 := by
        intro i
        by_cases hi : i < zs.length
        · have hw := hwz (zs.getD i 0) (by rw [List.getD_eq_getElem?_getD, List.getElem?_eq_getElem hi]; exact List.getElem_mem hi)
          have hw' := wf_range8 hw
          omega
        · rw [List.getD_eq_getElem?_getD, List.getElem?_eq_none (by omega)]; simp
      have hm' := hm
      unfold maxLen at hm'
      refine law_PLaws W W.heap.size len cap (some a) (fun i => (zs.getD i 0).toNat) ⟨fun i => by have := hr i; omega, fun i hi => ?_⟩ (Nat.le_refl _) hl hm'
      have hc := hcell i (by omega)
      refine ⟨a, rfl, ?_, ?_⟩
      · have := World.block_lt_of_cell? W _ hc
        rwa [addr_block] at this
      · rw [hc]
        have h1 := hr i
        congr 2
        omega
  refine walk.mono fun e W' ⟨he, hb⟩ => ?_
  subst he
  exact ⟨_, rfl, post_below (pa := p0) (pv := []) hW' (fun _ _ _ => (trodAll_cons_mk (shut_bool Try.underlying4 _) trodAll_mk0))
    (fun sp hsp => by
      have h1 := WideElems.Trod_stays (sp' := sp) fnLaws_laid fnLaws_readable fnLaws_there h0k (fun x hx => hb.same (hlt x hx)) (fun x hx => hsp x (by simpa using hx))
      have h2 := trodAll_cons_mk h1 trodAll_mk0
      have h3 : DataW.TrodAll enc Try.prog W' 0 sp true [22] [.slice a0 len cap] [d0] p0 := by simpa using h2
      exact h3) (fun _ _ => rfl) (by simp)
    hb (ok_one (by kernel_rfl) rfl (okWide_bool_mk Try.underlying4 _))⟩
theorem fnLaws_over : Rows.fnLawsRow.holds Try.pinned (OpenSpec.ofChange Rows.fnLawsSpec) :=
  OpenClaim.holds_of_wide 6 Try.f6 rfl rfl rfl rfl rfl rfl rfl ⟨rfl, rfl, rfl, rfl, rfl⟩ rfl rfl rfl rfl rfl (by kernel_rfl) Try.func6 (by kernel_rfl)
    (of_decide_eq_true (by kernel_rfl)) (by unfold Func.isWrapper; first | (rw [if_pos (by decide +kernel)]; kernel_rfl) | (rw [if_neg (by decide +kernel)]; exact ⟨rfl, rfl⟩))
    (fun os started H enc _ => fnLaws_lifted os started H enc)
theorem fnLaws_proved : Rows.FnLawsSaid :=
  fnLaws_over
end Go.Proofs.Ytnlalccnhpblkaa
