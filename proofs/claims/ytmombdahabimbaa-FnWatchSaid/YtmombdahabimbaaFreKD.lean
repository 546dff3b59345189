/- Free sets on every ring by all even steps, gone through one by one: a part of the cases. -/
import Derived.Test.YtmombdahabimbaaFreK
namespace Go.Proofs.Ytmombdahabimbaa
theorem spanX_12_48 : spanX 12 48 16 = true := by decide +kernel
theorem spanX_10 : spanX 10 0 32 = true := by decide +kernel
end Go.Proofs.Ytmombdahabimbaa
