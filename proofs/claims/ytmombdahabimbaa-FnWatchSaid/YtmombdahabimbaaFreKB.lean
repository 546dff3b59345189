/- Free sets on every ring by all even steps, gone through one by one: a part of the cases. -/
import Derived.Test.YtmombdahabimbaaFreK
namespace Go.Proofs.Ytmombdahabimbaa
theorem spanX_12_16 : spanX 12 16 16 = true := by decide +kernel
end Go.Proofs.Ytmombdahabimbaa
