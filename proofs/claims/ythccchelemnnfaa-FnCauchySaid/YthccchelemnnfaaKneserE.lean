/- Sums of sets: all cases. -/
import Derived.Test.YthccchelemnnfaaKneserA
import Derived.Test.YthccchelemnnfaaKneserB
import Derived.Test.YthccchelemnnfaaKneserC
import Derived.Test.YthccchelemnnfaaKneserD
namespace Go.Proofs.Ythccchelemnnfaa
theorem one_1 (b : Nat) (hb : b < 2) : oneB 1 b = true := by
  exact span_ok 1 0 2 span_1_0 b (by omega) (by omega)
theorem one_2 (b : Nat) (hb : b < 4) : oneB 2 b = true := by
  exact span_ok 2 0 4 span_2_0 b (by omega) (by omega)
theorem one_3 (b : Nat) (hb : b < 8) : oneB 3 b = true := by
  exact span_ok 3 0 8 span_3_0 b (by omega) (by omega)
theorem one_4 (b : Nat) (hb : b < 16) : oneB 4 b = true := by
  exact span_ok 4 0 16 span_4_0 b (by omega) (by omega)
theorem one_5 (b : Nat) (hb : b < 32) : oneB 5 b = true := by
  exact span_ok 5 0 32 span_5_0 b (by omega) (by omega)
theorem one_6 (b : Nat) (hb : b < 64) : oneB 6 b = true := by
  exact span_ok 6 0 64 span_6_0 b (by omega) (by omega)
theorem one_7 (b : Nat) (hb : b < 128) : oneB 7 b = true := by
  exact span_ok 7 0 128 span_7_0 b (by omega) (by omega)
theorem one_8 (b : Nat) (hb : b < 256) : oneB 8 b = true := by
  exact span_ok 8 0 256 span_8_0 b (by omega) (by omega)
theorem one_9 (b : Nat) (hb : b < 512) : oneB 9 b = true := by
  exact span_ok 9 0 512 span_9_0 b (by omega) (by omega)
theorem one_10 (b : Nat) (hb : b < 1024) : oneB 10 b = true := by
  by_cases h0 : b < 64
  · exact span_ok 10 0 64 span_10_0 b (by omega) (by omega)
  by_cases h1 : b < 256
  · exact span_ok 10 64 192 span_10_64 b (by omega) (by omega)
  exact span_ok 10 256 768 span_10_256 b (by omega) (by omega)
theorem one_11 (b : Nat) (hb : b < 2048) : oneB 11 b = true := by
  by_cases h0 : b < 32
  · exact span_ok 11 0 32 span_11_0 b (by omega) (by omega)
  by_cases h1 : b < 128
  · exact span_ok 11 32 96 span_11_32 b (by omega) (by omega)
  by_cases h2 : b < 512
  · exact span_ok 11 128 384 span_11_128 b (by omega) (by omega)
  by_cases h3 : b < 1024
  · exact span_ok 11 512 512 span_11_512 b (by omega) (by omega)
  exact span_ok 11 1024 1024 span_11_1024 b (by omega) (by omega)
theorem one_12 (b : Nat) (hb : b < 4096) : oneB 12 b = true := by
  by_cases h0 : b < 32
  · exact span_ok 12 0 32 span_12_0 b (by omega) (by omega)
  by_cases h1 : b < 64
  · exact span_ok 12 32 32 span_12_32 b (by omega) (by omega)
  by_cases h2 : b < 128
  · exact span_ok 12 64 64 span_12_64 b (by omega) (by omega)
  by_cases h3 : b < 256
  · exact span_ok 12 128 128 span_12_128 b (by omega) (by omega)
  by_cases h4 : b < 512
  · exact span_ok 12 256 256 span_12_256 b (by omega) (by omega)
  by_cases h5 : b < 1024
  · exact span_ok 12 512 512 span_12_512 b (by omega) (by omega)
  by_cases h6 : b < 2048
  · exact span_ok 12 1024 1024 span_12_1024 b (by omega) (by omega)
  by_cases h7 : b < 3072
  · exact span_ok 12 2048 1024 span_12_2048 b (by omega) (by omega)
  exact span_ok 12 3072 1024 span_12_3072 b (by omega) (by omega)
theorem one_all (n b : Nat) (h1 : 1 ≤ n) (h2 : n ≤ 12) (hb : b < 2 ^ n) : oneB n b = true := by
  have hn : n = 1 ∨ n = 2 ∨ n = 3 ∨ n = 4 ∨ n = 5 ∨ n = 6 ∨ n = 7 ∨ n = 8 ∨ n = 9 ∨ n = 10 ∨ n = 11 ∨ n = 12 := by omega
  rcases hn with rfl | rfl | rfl | rfl | rfl | rfl | rfl | rfl | rfl | rfl | rfl | rfl
  · exact one_1 b hb
  · exact one_2 b hb
  · exact one_3 b hb
  · exact one_4 b hb
  · exact one_5 b hb
  · exact one_6 b hb
  · exact one_7 b hb
  · exact one_8 b hb
  · exact one_9 b hb
  · exact one_10 b hb
  · exact one_11 b hb
  · exact one_12 b hb
end Go.Proofs.Ythccchelemnnfaa
