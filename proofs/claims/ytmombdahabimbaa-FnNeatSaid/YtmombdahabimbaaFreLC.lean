/- Fair colours on every ring of at most 8 places by all steps, gone through one by one: the cases. -/
import Derived.Test.YtmombdahabimbaaFreL
namespace Go.Proofs.Ytmombdahabimbaa
theorem spanC_8 : spanC 8 128 = true := by decide +kernel
end Go.Proofs.Ytmombdahabimbaa
