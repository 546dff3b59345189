/- Sums of sets, gone through one by one: a part of the cases. -/
import Derived.Test.YthccchelemnnfaaKneserF
namespace Go.Proofs.Ythccchelemnnfaa
theorem span_12_128 : spanB 12 128 128 = true := by decide +kernel
theorem span_12_256 : spanB 12 256 256 = true := by decide +kernel
end Go.Proofs.Ythccchelemnnfaa
