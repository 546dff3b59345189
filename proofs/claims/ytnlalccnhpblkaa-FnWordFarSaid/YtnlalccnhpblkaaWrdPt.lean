/- Words: which places have one. -/
import Derived.Test.YtnlalccnhpblkaaWrdM
import Derived.Test.YtnlalccnhpblkaaGV
namespace Go.Proofs.Ytnlalccnhpblkaa
set_option linter.unusedVariables false
theorem short_part (n : Nat) (ls : List Nat) (v : Nat) (h1 : 1 ≤ n) (h2 : n ≤ 12) (h : ∀ l ∈ ls, l < n) (hv : v < n) : (shortC n ls v).isSome = (partN n (signsN n ls)).testBit v := by
  have hS := signs_lt n ls h1 h
  rw [Bool.eq_iff_iff]
  rw [← iter_part n _ h1 h2 hS, word_iff n ls n v h1 h hv]
  constructor
  · intro e
    obtain ⟨cs, hc⟩ := Option.isSome_iff_exists.1 e
    obtain ⟨a, b, c, _⟩ := short_some n ls v cs hc
    exact ⟨cs, a, c, b⟩
  · rintro ⟨cs, a, b, c⟩
    cases e : shortC n ls v with
    | some x => rfl
    | none => exact absurd (short_none n ls v e cs a c) (by omega)
end Go.Proofs.Ytnlalccnhpblkaa
