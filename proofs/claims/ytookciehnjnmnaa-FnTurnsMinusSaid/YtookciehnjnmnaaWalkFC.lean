/- Walks on every ring by all steps, gone through one by one: a part of the cases. -/
import Derived.Test.YtookciehnjnmnaaWalkF
namespace Go.Proofs.Ytookciehnjnmnaa
theorem spanF_11_0 : spanF 11 0 512 = true := by decide +kernel
theorem spanF_11_512 : spanF 11 512 512 = true := by decide +kernel
theorem spanF_10_0 : spanF 10 0 512 = true := by decide +kernel
theorem spanF_9_0 : spanF 9 0 256 = true := by decide +kernel
theorem spanF_8_0 : spanF 8 0 128 = true := by decide +kernel
theorem spanF_7_0 : spanF 7 0 64 = true := by decide +kernel
theorem spanF_6_0 : spanF 6 0 32 = true := by decide +kernel
theorem spanF_5_0 : spanF 5 0 16 = true := by decide +kernel
theorem spanF_4_0 : spanF 4 0 8 = true := by decide +kernel
theorem spanF_3_0 : spanF 3 0 4 = true := by decide +kernel
theorem spanF_2_0 : spanF 2 0 2 = true := by decide +kernel
theorem spanF_1_0 : spanF 1 0 1 = true := by decide +kernel
end Go.Proofs.Ytookciehnjnmnaa
