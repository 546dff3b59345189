/- What the rows' conditions say of the listed variables: errors.errorType, the table of bits.TrailingZeros64. -/
import Derived.Test.YtecjhkpldcmlaaaDoorErrA
import Derived.LaidLaws
import Derived.LaidHandle
import Derived.Lib.LaidTab
namespace Go.Proofs.YtecjhkpldcmlaaaDoor
open Go.RowKit Go.Shelf
set_option linter.unusedVariables false
theorem el_glob : Tryd.prog.globalNamed "errors.errorType" = some 0 := by kernel_rfl
theorem el_rt : (Tryd.prog.cutTypes.find? (·.1 == "internal/reflectlite.rtype")).map (·.2) = some 136 := by kernel_rfl
theorem el_row : ((List.range Tryd.prog.types.size).filter fun t => Tryd.prog.rowNamed t [101, 114, 114, 111, 114]) = [81] := by kernel_rfl
theorem el_handle : typeHandle Tryd.prog 81 = .pointer (some ⟨4, 81, none⟩) := by kernel_rfl
theorem err_of_handles {l : List (String × DataW Unit)} {W : World} (hm : ("errors.errorType", Rows.laid_errors_errorType) ∈ l.filter fun x => x.2.handleName?.isSome) (h : handlesMet Tryd.prog (l.filter fun x => x.2.handleName?.isSome) W) : ErrVar W := by
  obtain ⟨name, u, ty, e1, e2, e3, e4, e5⟩ := h _ hm
  have en : name = [101, 114, 114, 111, 114] := (Option.some.inj e1).symm
  subst en
  obtain rfl := Option.some.inj (el_rt.symm.trans e2)
  have hm : ty ∈ (List.range Tryd.prog.types.size).filter fun t => Tryd.prog.rowNamed t [101, 114, 114, 111, 114] := List.mem_filter.2 ⟨List.mem_range.2 e3, e4⟩
  rw [el_row] at hm
  obtain rfl := List.mem_singleton.1 hm
  rw [el_handle] at e5
  unfold ErrVar
  simpa using World.var?_cell el_glob e5 0
end Go.Proofs.YtecjhkpldcmlaaaDoor
