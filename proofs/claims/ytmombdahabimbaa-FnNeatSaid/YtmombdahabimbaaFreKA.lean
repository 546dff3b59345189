/- Free sets on every ring by all even steps, gone through one by one: a part of the cases. -/
import Derived.Test.YtmombdahabimbaaFreK
namespace Go.Proofs.Ytmombdahabimbaa
theorem spanX_12_0 : spanX 12 0 16 = true := by decide +kernel
end Go.Proofs.Ytmombdahabimbaa
