/- Words: the shortest ones tell distances (the maths of chapter 10). -/
import Derived.Test.YtnlalccnhpblkaaGreatWrdM
import Derived.Test.YtnlalccnhpblkaaGreatFarMath
import Derived.Test.YtnlalccnhpblkaaGreatGV
namespace Go.Proofs.YtnlalccnhpblkaaGreat
set_option linter.unusedVariables false
/-- The number of letters of the shortest word tells the distance by both steps of the letters. -/
theorem short_far (n : Nat) (ls : List Nat) (v : Nat) (cs : List Int) (h1 : 1 ≤ n) (h2 : n ≤ 12) (h : ∀ l ∈ ls, l < n) (hv : v < n) (hs : shortC n ls v = some cs) : distN n (signsN n ls) v = (absL cs : Int) := by
  obtain ⟨ha, hb, hc, hd⟩ := short_some n ls v cs hs
  have hS := signs_lt n ls h1 h
  have hin : (partN n (signsN n ls)).testBit v = true := by
    rw [← iter_part n _ h1 h2 hS]
    exact (word_iff n ls n v h1 h hv).2 ⟨cs, ha, hc, hb⟩
  have hf := far_lt n _ v h1 h2 hS hin
  rw [dist_of_part n _ v hin]
  have hle : farN n (signsN n ls) v ≤ absL cs := by
    by_cases hx : absL cs < n
    · exact (far_iff n _ v _ hx).1 ((word_iff n ls _ v h1 h hv).2 ⟨cs, ha, Nat.le_refl _, hb⟩)
    · omega
  have hge : absL cs ≤ farN n (signsN n ls) v := by
    obtain ⟨ds, p, q, r⟩ := (word_iff n ls _ v h1 h hv).1 ((far_iff n _ v _ hf).2 (Nat.le_refl _))
    exact Nat.le_trans (hd ds p r) q
  omega
