/- Sums of sets, gone through one by one: a part of the cases. -/
import Derived.Test.YthccchelemnnfaaKneserF
namespace Go.Proofs.Ythccchelemnnfaa
theorem span_12_512 : spanB 12 512 512 = true := by decide +kernel
theorem span_12_1024 : spanB 12 1024 1024 = true := by decide +kernel
theorem span_12_2048 : spanB 12 2048 1024 = true := by decide +kernel
theorem span_12_3072 : spanB 12 3072 1024 = true := by decide +kernel
theorem span_11_0 : spanB 11 0 32 = true := by decide +kernel
theorem span_11_32 : spanB 11 32 96 = true := by decide +kernel
end Go.Proofs.Ythccchelemnnfaa
