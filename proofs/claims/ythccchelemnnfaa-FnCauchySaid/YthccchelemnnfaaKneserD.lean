/- Sums of sets, gone through one by one: a part of the cases. -/
import Derived.Test.YthccchelemnnfaaKneserF
namespace Go.Proofs.Ythccchelemnnfaa
theorem span_11_128 : spanB 11 128 384 = true := by decide +kernel
theorem span_11_512 : spanB 11 512 512 = true := by decide +kernel
theorem span_11_1024 : spanB 11 1024 1024 = true := by decide +kernel
theorem span_10_0 : spanB 10 0 64 = true := by decide +kernel
theorem span_10_64 : spanB 10 64 192 = true := by decide +kernel
theorem span_10_256 : spanB 10 256 768 = true := by decide +kernel
theorem span_9_0 : spanB 9 0 512 = true := by decide +kernel
theorem span_8_0 : spanB 8 0 256 = true := by decide +kernel
theorem span_7_0 : spanB 7 0 128 = true := by decide +kernel
theorem span_6_0 : spanB 6 0 64 = true := by decide +kernel
theorem span_5_0 : spanB 5 0 32 = true := by decide +kernel
theorem span_4_0 : spanB 4 0 16 = true := by decide +kernel
theorem span_3_0 : spanB 3 0 8 = true := by decide +kernel
theorem span_2_0 : spanB 2 0 4 = true := by decide +kernel
theorem span_1_0 : spanB 1 0 2 = true := by decide +kernel
end Go.Proofs.Ythccchelemnnfaa
