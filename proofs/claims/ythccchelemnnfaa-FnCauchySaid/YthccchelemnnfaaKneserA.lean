/- Sums of sets, gone through one by one: a part of the cases. -/
import Derived.Test.YthccchelemnnfaaKneserF
namespace Go.Proofs.Ythccchelemnnfaa
theorem span_12_0 : spanB 12 0 32 = true := by decide +kernel
theorem span_12_32 : spanB 12 32 32 = true := by decide +kernel
theorem span_12_64 : spanB 12 64 64 = true := by decide +kernel
end Go.Proofs.Ythccchelemnnfaa
