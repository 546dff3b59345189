/- Walks on every ring by all steps, gone through one by one: a part of the cases. -/
import Derived.Test.YtookciehnjnmnaaWalkF
namespace Go.Proofs.Ytookciehnjnmnaa
theorem spanF_12_0 : spanF 12 0 512 = true := by decide +kernel
theorem spanF_12_512 : spanF 12 512 512 = true := by decide +kernel
end Go.Proofs.Ytookciehnjnmnaa
