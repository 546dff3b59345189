/- Fair colours on every ring of at most 8 places by all steps, gone through one by one: the cases. -/
import Derived.Test.YtmombdahabimbaaFreL
namespace Go.Proofs.Ytmombdahabimbaa
theorem spanC_1 : spanC 1 1 = true := by decide +kernel
theorem spanC_2 : spanC 2 2 = true := by decide +kernel
theorem spanC_3 : spanC 3 4 = true := by decide +kernel
theorem spanC_4 : spanC 4 8 = true := by decide +kernel
theorem spanC_5 : spanC 5 16 = true := by decide +kernel
theorem spanC_6 : spanC 6 32 = true := by decide +kernel
end Go.Proofs.Ytmombdahabimbaa
