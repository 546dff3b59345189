/- Words: the shortest text tells a distance (P86). -/
import Derived.Test.YtnlalccnhpblkaaGreatWrdN
import Derived.Test.YtnlalccnhpblkaaGreatWrdL
namespace Go.Proofs.YtnlalccnhpblkaaGreat
set_option linter.unusedVariables false
/-- P86. -/
theorem p_wordShort (n : Int) (xs : List Int) (v : Int) (out : ByteArray) (h : shortO n xs v = some out) :
    LetIn n xs ∧ 0 ≤ v ∧ v ≤ n - 1 ∧ endO n xs out = some v.toNat ∧ tidyO n xs out = some out ∧ distN n.toNat (signsN n.toNat (letL xs)) v.toNat = (out.size : Int) := by
  unfold shortO at h
  by_cases hc : LetIn n xs ∧ 0 ≤ v ∧ v ≤ n - 1
  · rw [if_pos hc] at h
    obtain ⟨hL, h0, h1⟩ := hc
    have hn := hL.1
    cases hs : shortC n.toNat (letL xs) v.toNat with
    | none => rw [hs] at h; cases h
    | some cs =>
      rw [hs] at h
      have ho2 : toB (textC 0 cs) = out := Option.some.inj h
      obtain ⟨a1, a2, a3⟩ : cs.length = (letL xs).length ∧ absL cs ≤ n.toNat ∧ endW n.toNat (letL xs) cs = v.toNat := by
        obtain ⟨b1, b2, b3, _⟩ := short_some n.toNat (letL xs) v.toNat cs hs
        exact ⟨b1, b3, b2⟩
      rw [let_len] at a1
      have hLn : LetIn ((n.toNat : Nat) : Int) xs := by rw [show ((n.toNat : Nat) : Int) = n by omega]; exact hL
      have hc2 : cntT xs.length out.toList = some cs := by
        rw [← ho2, toB_list]
        exact cntT_text xs.length hL.2.2.1 cs a1 (by omega)
      have e2 := endO_yes n.toNat xs out cs hLn hc2
      rw [show ((n.toNat : Nat) : Int) = n by omega, a3] at e2
      refine ⟨hL, h0, h1, e2.1, by rw [e2.2, ho2], ?_⟩
      rw [← ho2, toB_size, text_len]
      exact short_far n.toNat (letL xs) v.toNat cs (by omega) (by omega) (fun l hl => by
        unfold letL at hl
        obtain ⟨z, hz, rfl⟩ := List.mem_map.1 hl
        obtain ⟨i, hi, rfl⟩ := List.getElem_of_mem hz
        have h9 := hL.2.2.2 i hi
        rw [List.getD_eq_getElem?_getD, List.getElem?_eq_getElem hi] at h9
        have h8 : 1 ≤ xs[i] ∧ xs[i] ≤ n - 1 := h9
        omega) (by omega) hs
  · rw [if_neg hc] at h; cases h
end Go.Proofs.YtnlalccnhpblkaaGreat
