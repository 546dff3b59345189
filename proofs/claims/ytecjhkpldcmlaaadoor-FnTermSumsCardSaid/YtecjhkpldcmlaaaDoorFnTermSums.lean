/- Called with any arguments whatever, FnTermSums returns true, and its arguments read as before; what the listed variables hold is tied to the program's text; no further conditions. -/
import Derived.Test.YtecjhkpldcmlaaaDoorRows
import Derived.Test.YtecjhkpldcmlaaaDoorCards
import Derived.Test.YtecjhkpldcmlaaaDoorTie
import Derived.Test.YtecjhkpldcmlaaaDoorPTrG
import Derived.WalkKit
import Derived.ProofKit
import Derived.OpenShut
import Derived.ChangeSlices
import Derived.Carry
import Derived.ChangeMaps5
import Derived.LaidMore
import Derived.SevenTiedAt
import Derived.Stop.Joined
import Derived.ChangeSame
import Derived.ChangeVars
import Derived.JoinedOf
namespace Go.Proofs.YtecjhkpldcmlaaaDoor
open Go.ChangeShapes Go.WideShapes Go.ChangeAt Go.RowKit Go.ChangeMaps
set_option linter.unusedVariables false
theorem fnTermSums_own : ownKnob Tryd.prog.godebug = none := by kernel_rfl
theorem fnTermSums_laid : laidOutB Tryd.prog = true := by kernel_rfl
theorem fnTermSums_cells : Tryd.prog.cellsOf 5 = 1 := by kernel_rfl
theorem fnTermSums_readable : Tryd.prog.readableRec 22 = true := by kernel_rfl
theorem fnTermSums_there : 22 < Tryd.prog.types.size := of_decide_eq_true (by kernel_rfl)
theorem fnTermSums_err {W : World} (h : laidMetH Tryd.prog Rows.fnTermSumsRow.laid W) : ErrVar W := by
  have h' : laidMet Tryd.prog (Rows.fnTermSumsRow.laid.filter fun x => x.2.handleName?.isNone) W ∧ handlesMet Tryd.prog (Rows.fnTermSumsRow.laid.filter fun x => x.2.handleName?.isSome) W := h
  exact err_of_handles (l := Rows.fnTermSumsRow.laid) (List.mem_singleton.2 rfl) h'.2
theorem fnTermSums_door (os : Os) (args : Array Value) : laidMetH Tryd.prog Rows.fnTermSumsRow.laid ((World.doorLaid Tryd.prog 26 os).forCall (fun _ _ => 0) ⟨#[], args, []⟩).memory :=
  laidMetH_of_parts3 (fuel := 8) (laidMet_of_run' 8 (by kernel_rfl) (by kernel_rfl)) (by kernel_rfl) (by kernel_rfl)
set_option maxRecDepth 100000 in
theorem fnTermSums_lifted (os : Os) (started : os.Started) (H : Type) (enc : TypeId × Value → H) :
    ReturnsInHanded {} Tryd.checked os 5 .any (fun w args => (Rows.fnTermSumsSpec.pre enc Tryd.prog Tryd.f5 [] false w args ∧ laidMetH Tryd.prog Rows.fnTermSumsRow.laid w) ∧ sizedMet enc Tryd.prog Tryd.f5 (OpenSpec.ofChange Rows.fnTermSumsSpec) false w args)
      (Rows.fnTermSumsSpec.post enc Tryd.prog Tryd.f5 false true false false) := by
  refine returnsInHanded_of_change_and (C := Tryd.checked) (X := fun w _ => laidMetH Tryd.prog Rows.fnTermSumsRow.laid w) (fun _ _ _ hh h => h.of_heap hh) fnTermSums_own started (by kernel_rfl) Tryd.func5
    (ChangeSpec.witness_shaped (enc := enc) (C := Tryd.checked) (os := os) (X := fun w _ => laidMetH Tryd.prog Rows.fnTermSumsRow.laid w) false (World.doorLaid Tryd.prog 26 os) #[.slice none 0 0] 8 rfl (World.shaped_of_RefB (by kernel_rfl) (by kernel_rfl)) (by kernel_rfl) (by kernel_rfl) (by kernel_rfl) (fnTermSums_door os _)) ?_
  intro W base args ds gs before hval0 hW _ _ hL _
  have hval : ∀ (j : Nat) t v, Tryd.f5.params[j]? = some t → args[j]? = some v → Value.okWide Tryd.prog W .any base t v := hval0
  have hW' := hW
  obtain ⟨p, q, hA0, hV, rfl, hfz, hnd⟩ := hW
  have hA : DataW.TrodAll enc Tryd.prog W 0 (fun _ => true) true Tryd.f5.params.toList args.toList ds p := hA0
  rw [Tryd.params5] at hA hval
  obtain ⟨v0, vs0, d0, ds0, p0, q0, hargs, rfl, rfl, h0, r0⟩ := trodAll_cons hA
  obtain ⟨rfl, rfl, rfl⟩ := trodAll_nil r0
  obtain rfl : args = #[v0] := by cases args; simp_all
  obtain ⟨rfl, rfl⟩ := trodVars_none hV
  have hlt : ∀ x ∈ p0, x.block < W.heap.size := fun x hx => by simpa using hW'.lt x (by simpa using hx)
  have h0k := h0
  obtain ⟨a0, len, cap, rfl⟩ := okWide_slice Tryd.underlying22 (hval 0 22 v0 rfl rfl)
  obtain ⟨fuel, hf⟩ := h0
  clear hA0 hval0
  simp only [List.append_nil] at hW'
  have walk : Calls Tryd.prog 5 #[.slice a0 len cap] W fun e w' => e = .returned (.bool true) ∧ Below W.heap.size W w' := by
    rcases open_ints Tryd.underlying22 Tryd.underlying5 fnTermSums_cells hf with ⟨hcs, hx⟩ | ⟨a, len', cap', zs, hcs, _, hl, hm, hz, hx, hcell, hwz⟩
    · simp [Value.cells] at hcs
      obtain ⟨rfl, rfl, rfl⟩ := hcs
      exact law_PTermSums W W.heap.size 0 0 none (fun _ => 0) ⟨fun _ => by omega, fun i hi => by omega⟩ (Nat.le_refl _) (Nat.le_refl _) (by omega) (fnTermSums_err hL)
    · simp [Value.cells] at hcs
      obtain ⟨rfl, rfl, rfl⟩ := hcs
      simp only [if_true] at hz
      have hr : ∀ i, 0 ≤ zs.getD i 0 ∧ zs.getD i 0 ≤ 255 := by
        intro i
        by_cases hi : i < zs.length
        · have hw := hwz (zs.getD i 0) (by rw [List.getD_eq_getElem?_getD, List.getElem?_eq_getElem hi]; exact List.getElem_mem hi)
          have hw' := wf_range8 hw
          omega
        · rw [List.getD_eq_getElem?_getD, List.getElem?_eq_none (by omega)]; simp
      have hm' := hm
      unfold maxLen at hm'
      refine law_PTermSums W W.heap.size len cap (some a) (fun i => (zs.getD i 0).toNat) ⟨fun i => by have := hr i; omega, fun i hi => ?_⟩ (Nat.le_refl _) hl hm' (fnTermSums_err hL)
      have hc := hcell i (by omega)
      refine ⟨a, rfl, ?_, ?_⟩
      · have := World.block_lt_of_cell? W _ hc
        rwa [addr_block] at this
      · rw [hc]
        have h1 := hr i
        congr 2
        omega
  refine walk.mono fun e W' ⟨he, hb⟩ => ?_
  subst he
  exact ⟨_, rfl, post_below (pa := p0) (pv := []) hW' (fun _ _ _ => (trodAll_cons_mk (shut_bool Tryd.underlying4 _) trodAll_mk0))
    (fun sp hsp => by
      have h1 := WideElems.Trod_stays (sp' := sp) fnTermSums_laid fnTermSums_readable fnTermSums_there h0k (fun x hx => hb.same (hlt x hx)) (fun x hx => hsp x (by simpa using hx))
      have h2 := trodAll_cons_mk h1 trodAll_mk0
      have h3 : DataW.TrodAll enc Tryd.prog W' 0 sp true [22] [.slice a0 len cap] [d0] p0 := by simpa using h2
      exact h3) (fun _ _ => rfl) (by simp)
    hb (ok_one (by kernel_rfl) rfl (okWide_bool_mk Tryd.underlying4 _))⟩
theorem fnTermSums_over : Rows.fnTermSumsRow.holds Tryd.pinned (OpenSpec.ofChange Rows.fnTermSumsSpec) :=
  OpenClaim.holds_of_wide 5 Tryd.f5 rfl rfl rfl rfl rfl rfl rfl ⟨rfl, rfl, rfl, rfl, rfl⟩ rfl rfl rfl rfl rfl (by kernel_rfl) Tryd.func5 (by kernel_rfl)
    (of_decide_eq_true (by kernel_rfl)) (by unfold Func.isWrapper; first | (rw [if_pos (by decide +kernel)]; kernel_rfl) | (rw [if_neg (by decide +kernel)]; exact ⟨rfl, rfl⟩))
    (fun os started H enc _ => fnTermSums_lifted os started H enc)
theorem fnTermSums_proved : Rows.FnTermSumsCardSaid :=
  Claim7.holds_tied_plain_at .later [] [.handle] true (true, "f633561172f7700d76fdb2160acef6dd3201c10d22b4e411bea4331b825efa2a") true
    fnTermSums_over (fun _ h => by cases h) (by kernel_rfl) (fun _ h => by cases h) fnTermSums_row_tie rfl ⟨rfl, rfl⟩ (by kernel_rfl) rfl
    (fun f fn hf hfn => by
      obtain rfl : f = 5 := Option.some.inj ((show Tryd.prog.funcNamed "loop.example/ringsofsteps/laws.FnTermSums" = some 5 by kernel_rfl).symm.trans hf) |>.symm
      obtain rfl : fn = Tryd.f5 := (Option.some.inj (Tryd.func5.symm.trans hfn)).symm
      exact ⟨by kernel_rfl, fun j t ht => by
        rw [Tryd.params5] at ht
        have hm : t ∈ [22] := by simpa using Array.mem_of_getElem? ht
        have hall : ([22].all fun u => !Tryd.prog.wantsStandIn u) = true := by kernel_rfl
        exact (show Tryd.prog.wantsStandIn t = false by simpa using List.all_eq_true.1 hall t hm)⟩)
    (by kernel_rfl)
end Go.Proofs.YtecjhkpldcmlaaaDoor
