/- Free sets on every ring by all even steps, gone through one by one: a part of the cases. -/
import Derived.Test.YtmombdahabimbaaFreK
namespace Go.Proofs.Ytmombdahabimbaa
theorem spanX_11 : spanX 11 0 32 = true := by decide +kernel
theorem spanX_1 : spanX 1 0 1 = true := by decide +kernel
theorem spanX_2 : spanX 2 0 2 = true := by decide +kernel
theorem spanX_3 : spanX 3 0 2 = true := by decide +kernel
theorem spanX_4 : spanX 4 0 4 = true := by decide +kernel
theorem spanX_5 : spanX 5 0 4 = true := by decide +kernel
theorem spanX_6 : spanX 6 0 8 = true := by decide +kernel
theorem spanX_7 : spanX 7 0 8 = true := by decide +kernel
theorem spanX_8 : spanX 8 0 16 = true := by decide +kernel
theorem spanX_9 : spanX 9 0 16 = true := by decide +kernel
end Go.Proofs.Ytmombdahabimbaa
