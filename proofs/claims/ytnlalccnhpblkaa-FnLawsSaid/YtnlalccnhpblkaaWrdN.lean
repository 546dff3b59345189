/- Words: what the promises say of ends, tidy texts and shortest ones. -/
import Derived.Test.YtnlalccnhpblkaaWrdM
import Derived.Test.YtnlalccnhpblkaaGV
namespace Go.Proofs.Ytnlalccnhpblkaa
set_option linter.unusedVariables false
theorem list_append (s t : ByteArray) : (s ++ t).toList = s.toList ++ t.toList := by
  have e : s ++ t = toB (s.toList ++ t.toList) := by
    rw [← toB_append, toB_of, toB_of]
  rw [e, toB_list]
theorem let_len (xs : List Int) : (letL xs).length = xs.length := by simp [letL]
theorem endO_is (n : Int) (xs : List Int) (s : ByteArray) (hL : LetIn n xs) (h60 : s.size ≤ 60) (ho : ∀ b ∈ s.toList, okB xs.length b) :
    ∃ cs, cntT xs.length s.toList = some cs ∧ endO n xs s = some (rest n.toNat (sumB (letL xs) s.toList)) ∧ tidyO n xs s = some (toB (textC 0 cs)) := by
  have hs := (cntT_iff xs.length s.toList).2 ⟨by rw [bytes_len]; exact h60, ho⟩
  obtain ⟨cs, hc⟩ := Option.isSome_iff_exists.1 hs
  obtain ⟨_, _, _, _, hS⟩ := cntT_some _ _ _ hc
  have hn := hL.1
  have e1 := endO_yes n.toNat xs s cs (by rw [show ((n.toNat : Nat) : Int) = n by omega]; exact hL) hc
  rw [show ((n.toNat : Nat) : Int) = n by omega] at e1
  refine ⟨cs, hc, ?_, e1.2⟩
  rw [e1.1]
  unfold endW
  rw [hS (letL xs) (let_len xs)]
theorem endO_some (n : Int) (xs : List Int) (s : ByteArray) (e : Nat) (h : endO n xs s = some e) :
    LetIn n xs ∧ s.size ≤ 60 ∧ (∀ b ∈ s.toList, okB xs.length b) ∧ e = rest n.toNat (sumB (letL xs) s.toList) := by
  by_cases hL : LetIn n xs
  · cases hc : cntT xs.length s.toList with
    | none => rw [(endO_no n xs s (.inr hc)).1] at h; cases h
    | some cs =>
      obtain ⟨h60, ho, _, _, _⟩ := cntT_some _ _ _ hc
      rw [bytes_len] at h60
      obtain ⟨_, _, he, _⟩ := endO_is n xs s hL h60 ho
      rw [he] at h
      exact ⟨hL, h60, ho, (Option.some.inj h).symm⟩
  · rw [(endO_no n xs s (.inl hL)).1] at h; cases h
theorem size_append (s t : ByteArray) : (s ++ t).size = s.size + t.size := by
  rw [← bytes_len, list_append, List.length_append, bytes_len, bytes_len]
/-- P84. -/
theorem p_wordEnd (n : Int) (xs : List Int) (s : ByteArray) (e : Nat) (h : endO n xs s = some e) (h30 : s.size ≤ 30) : endO n xs (s ++ s) = some (2 * e % n.toNat) := by
  obtain ⟨hL, h60, ho, he⟩ := endO_some n xs s e h
  obtain ⟨cs, _, hE, _⟩ := endO_is n xs (s ++ s) hL (by rw [size_append]; omega) (fun b hb => by
    rw [list_append] at hb
    rcases List.mem_append.1 hb with h | h <;> exact ho b h)
  have hn := hL.1
  rw [hE, list_append, sumB_append, ← rest_plus n.toNat _ _ (by omega), ← he, Nat.two_mul]
/-- P85. -/
theorem p_wordTidy (n : Int) (xs : List Int) (s out : ByteArray) (h : tidyO n xs s = some out) :
    ∃ e, endO n xs s = some e ∧ endO n xs out = some e ∧ tidyO n xs out = some out ∧ out.size ≤ s.size := by
  by_cases hL : LetIn n xs
  · cases hc : cntT xs.length s.toList with
    | none => rw [(endO_no n xs s (.inr hc)).2] at h; cases h
    | some cs =>
      obtain ⟨h60, ho, hl, habs, hS⟩ := cntT_some _ _ _ hc
      rw [bytes_len] at h60 habs
      have hn := hL.1
      have hLn : LetIn ((n.toNat : Nat) : Int) xs := by rw [show ((n.toNat : Nat) : Int) = n by omega]; exact hL
      have e1 := endO_yes n.toNat xs s cs hLn hc
      rw [show ((n.toNat : Nat) : Int) = n by omega] at e1
      rw [e1.2] at h
      have ho2 := Option.some.inj h
      have hc2 : cntT xs.length out.toList = some cs := by
        rw [← ho2, toB_list]
        exact cntT_text xs.length hL.2.2.1 cs hl (by omega)
      have e2 := endO_yes n.toNat xs out cs hLn hc2
      rw [show ((n.toNat : Nat) : Int) = n by omega] at e2
      refine ⟨_, e1.1, e2.1, by rw [e2.2, ho2], ?_⟩
      rw [← ho2, toB_size, text_len]
      exact habs
  · rw [(endO_no n xs s (.inl hL)).2] at h; cases h
theorem same_some (n : Int) (xs : List Int) (s t : ByteArray) : sameO n xs s t = true ↔ ∃ e, endO n xs s = some e ∧ endO n xs t = some e := by
  unfold sameO
  cases hs : endO n xs s with
  | none => simp
  | some e =>
    cases ht : endO n xs t with
    | none => simp
    | some f => simp [eq_comm]
/-- P87. -/
theorem p_wordSame (n : Int) (xs : List Int) (s t : ByteArray) (h : sameO n xs s t = true) : sameO n xs t s = true ∧ (s.size ≤ 59 → t.size ≤ 59 → sameO n xs (s ++ ⟨#[97]⟩) (t ++ ⟨#[97]⟩) = true) := by
  obtain ⟨e, h1, h2⟩ := (same_some n xs s t).1 h
  refine ⟨(same_some n xs t s).2 ⟨e, h2, h1⟩, fun hs ht => ?_⟩
  obtain ⟨hL, _, ho1, he1⟩ := endO_some n xs s e h1
  obtain ⟨_, _, ho2, he2⟩ := endO_some n xs t e h2
  have hn := hL.1
  have ha : (⟨#[97]⟩ : ByteArray).toList = [97] := by rw [ByteArray.toList_eq]
  have hok : okB xs.length 97 := ⟨by decide, by
    have : letK 97 = 0 := by decide
    rw [this]
    have := hL.2.1
    omega⟩
  have step : ∀ u : ByteArray, u.size ≤ 59 → (∀ b ∈ u.toList, okB xs.length b) → e = rest n.toNat (sumB (letL xs) u.toList) → endO n xs (u ++ ⟨#[97]⟩) = some ((e + rest n.toNat (sumB (letL xs) [97])) % n.toNat) := fun u hu ho he => by
    obtain ⟨_, _, hE, _⟩ := endO_is n xs (u ++ ⟨#[97]⟩) hL (by rw [size_append]; show u.size + 1 ≤ 60; omega) (fun b hb => by
      rw [list_append, ha] at hb
      rcases List.mem_append.1 hb with h | h
      · exact ho b h
      · rw [List.mem_singleton.1 h]; exact hok)
    rw [hE, list_append, sumB_append, ha, ← rest_plus n.toNat _ _ (by omega), ← he]
  exact (same_some n xs _ _).2 ⟨_, step s hs ho1 he1, step t ht ho2 he2⟩
end Go.Proofs.Ytnlalccnhpblkaa
