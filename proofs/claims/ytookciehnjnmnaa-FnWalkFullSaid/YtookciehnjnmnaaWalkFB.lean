/- Walks on every ring by all steps, gone through one by one: a part of the cases. -/
import Derived.Test.YtookciehnjnmnaaWalkF
namespace Go.Proofs.Ytookciehnjnmnaa
theorem spanF_12_1024 : spanF 12 1024 512 = true := by decide +kernel
theorem spanF_12_1536 : spanF 12 1536 512 = true := by decide +kernel
end Go.Proofs.Ytookciehnjnmnaa
