/- What a row's conditions say of the tables of math/bits: that of TrailingZeros64 behind that of TrailingZeros32. -/
import Derived.Test.YtecjhkpldcmlaaaDoorTrwD
namespace Go.Proofs.YtecjhkpldcmlaaaDoor
open Go.RowKit Go.Shelf
set_option linter.unusedVariables false
def tabsL : List (String × DataW Unit) := [("math/bits.deBruijn32tab", Lib.tabData .u8 debA), ("math/bits.deBruijn64tab", Lib.tabData .u8 debL)]
theorem tab_of_laid {W : World} (h : laidMet Tryd.prog tabsL W) : TabVar W := by
  obtain ⟨ps, ⟨g', t', cs, fuel, p, q, hg', ht', hvar, hd, ⟨g2, t2, cs2, fuel2, p2, q2, hg2, ht2, hvar2, hd2, _, _⟩, _⟩, _⟩ := h
  obtain rfl := Option.some.inj (deb_glob.symm.trans hg2)
  obtain rfl := Option.some.inj ((show (Tryd.prog.globals[3]?).map (·.type) = some 150 by kernel_rfl).symm.trans ht2)
  unfold TabVar Lib.TabIs
  rw [hvar2, ← Lib.cells_of_tab Tryd.underlying150 Tryd.underlying5 (by kernel_rfl) (by kernel_rfl) hd2]
end Go.Proofs.YtecjhkpldcmlaaaDoor
