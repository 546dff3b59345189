/- Words: their ends and lengths tell distances (the maths of chapter 10). -/
import Derived.Test.YtnlalccnhpblkaaItr
import Derived.Test.YtnlalccnhpblkaaGV
import Derived.Test.YtnlalccnhpblkaaGL
namespace Go.Proofs.Ytnlalccnhpblkaa
set_option linter.unusedVariables false
def signsN (n : Nat) (ls : List Nat) : Nat := bothN n (maskL ls)
theorem signs_lt (n : Nat) (ls : List Nat) (h1 : 1 ≤ n) (h : ∀ l ∈ ls, l < n) : signsN n ls < 2 ^ n := bothN_lt n _ h1 (mask_lt n ls h)
theorem rest_small (n v : Nat) (hv : v < n) : rest n (v : Int) = v := rest_self n v hv
theorem rest_plus (n : Nat) (a b : Int) (h1 : 1 ≤ n) : (rest n a + rest n b) % n = rest n (a + b) := by
  rw [← rest_both n a b h1]
  show _ = ((((rest n a : Nat) : Int) + ((rest n b : Nat) : Int)) % (n : Int)).toNat
  rw [← Int.natCast_add, ← Int.natCast_emod, Int.toNat_natCast]
theorem rest_nil (n : Nat) : rest n 0 = 0 := by unfold rest; simp
theorem iter_nought (n s : Nat) : (iterN n s 0).testBit 0 = true := by
  rw [show iterN n s 0 = 1 from rfl]
  decide
theorem in_of_word (n : Nat) (ls : List Nat) (m : Nat) (h1 : 1 ≤ n) (h : ∀ l ∈ ls, l < n) : ∀ ks : List Nat, (∀ l ∈ ks, l ∈ ls) → ∀ cs : List Int, absL cs ≤ m → (iterN n (signsN n ls) m).testBit (endW n ks cs) = true := by
  have hs := signs_lt n ls h1 h
  have one : ∀ l ∈ ls, ∀ e : Int, e.natAbs = 1 → (iterN n (signsN n ls) 1).testBit (rest n ((l : Int) * e)) = true := by
    intro l hl e he
    rw [iter_one n _ h1 hs, Nat.testBit_or, Bool.or_eq_true]
    right
    have hb := (mask_bit ls l).2 hl
    have hln := h l hl
    unfold signsN
    rcases (show e = 1 ∨ e = -1 by omega) with e1 | e1
    · subst e1
      rw [Int.mul_one, rest_small n l hln, both_bit n _ l h1 (mask_lt n ls h) hln, hb, Bool.true_or]
    · subst e1
      rw [show (l : Int) * -1 = -(l : Int) by omega, show rest n (-(l : Int)) = neg n l from rfl, both_bit n _ _ h1 (mask_lt n ls h) (neg_lt n l h1), neg_neg' n l h1 hln, hb, Bool.or_true]
  have many : ∀ l ∈ ls, ∀ k : Nat, ∀ e : Int, e.natAbs = k → (iterN n (signsN n ls) k).testBit (rest n ((l : Int) * e)) = true := by
    intro l hl k
    induction k with
    | zero =>
      intro e he
      rw [show e = 0 by omega, Int.mul_zero, rest_nil]
      exact iter_nought n _
    | succ k ih =>
      intro e he
      have hx : ∃ f g : Int, f.natAbs = k ∧ g.natAbs = 1 ∧ f + g = e := by
        by_cases h0 : 0 < e
        · exact ⟨e - 1, 1, by omega, rfl, by omega⟩
        · exact ⟨e + 1, -1, by omega, rfl, by omega⟩
      obtain ⟨f, g, hf, hg, e'⟩ := hx
      have := iter_add n (signsN n ls) k 1 _ _ h1 hs (rest_lt n _ h1) (rest_lt n _ h1) (ih f hf) (one l hl g hg)
      rw [rest_plus n _ _ h1, ← Int.mul_add, e'] at this
      exact this
  intro ks
  induction ks generalizing m with
  | nil =>
    intro _ cs _
    show (iterN n (signsN n ls) m).testBit (rest n 0) = true
    rw [rest_nil]
    exact iter_mono_le n _ 0 0 m (Nat.zero_le _) (iter_nought n _)
  | cons a ks ih =>
    intro hk cs hm
    cases cs with
    | nil =>
      show (iterN n (signsN n ls) m).testBit (rest n 0) = true
      rw [rest_nil]
      exact iter_mono_le n _ 0 0 m (Nat.zero_le _) (iter_nought n _)
    | cons c cs =>
      have hm' : c.natAbs + absL cs ≤ m := hm
      have x := many a (hk a (List.mem_cons_self ..)) _ c rfl
      have y := ih (absL cs) (fun l hl => hk l (List.mem_cons_of_mem _ hl)) cs (Nat.le_refl _)
      have z := iter_add n (signsN n ls) _ _ _ _ h1 hs (rest_lt n _ h1) (rest_lt n _ h1) x y
      rw [rest_plus n _ _ h1] at z
      exact iter_mono_le n _ _ _ m hm' z
theorem word_of_in (n : Nat) (ls : List Nat) (d : Nat) (h1 : 1 ≤ n) (h : ∀ l ∈ ls, l < n) : ∀ v, v < n → (iterN n (signsN n ls) d).testBit v = true → ∃ cs : List Int, cs.length = ls.length ∧ absL cs ≤ d ∧ endW n ls cs = v := by
  have hs := signs_lt n ls h1 h
  induction d with
  | zero =>
    intro v hv hb
    have hv0 : v = 0 := by
      by_cases e : v = 0
      · exact e
      · rw [show iterN n (signsN n ls) 0 = 1 from rfl, Nat.testBit_lt_two_pow (Nat.one_lt_two_pow e)] at hb
        cases hb
    subst hv0
    refine ⟨List.replicate ls.length 0, by simp, Nat.le_of_eq (end_zero ls).2, ?_⟩
    unfold endW
    rw [(end_zero ls).1, rest_nil]
  | succ d ih =>
    intro v hv hb
    rw [iter_up, Nat.testBit_or, Bool.or_eq_true] at hb
    rcases hb with hb | hb
    · obtain ⟨cs, a, b, c⟩ := ih v hv hb
      exact ⟨cs, a, by omega, c⟩
    · obtain ⟨u, k, hu, hub, hk, hkb, e⟩ := (sumN_bit n _ _ v h1 hs).1 hb
      obtain ⟨cs, a, b, c⟩ := ih u hu hub
      have hstep : ∃ l e, l ∈ ls ∧ Int.natAbs e = 1 ∧ rest n ((l : Int) * e) = k := by
        unfold signsN at hkb
        rw [both_bit n _ k h1 (mask_lt n ls h) hk, Bool.or_eq_true] at hkb
        rcases hkb with hkb | hkb
        · exact ⟨k, 1, (mask_bit ls k).1 hkb, rfl, by rw [Int.mul_one, rest_small n k hk]⟩
        · refine ⟨neg n k, -1, (mask_bit ls _).1 hkb, rfl, ?_⟩
          rw [show ((neg n k : Nat) : Int) * -1 = -((neg n k : Nat) : Int) by omega]
          exact neg_neg' n k h1 hk
      obtain ⟨l, e', hl, he, hr⟩ := hstep
      obtain ⟨ds, p, q, r⟩ := bump l e' ls cs a hl
      refine ⟨ds, p, by omega, ?_⟩
      unfold endW at c ⊢
      rw [q, ← rest_plus n _ _ h1, c, hr]
      exact e
theorem word_iff (n : Nat) (ls : List Nat) (d v : Nat) (h1 : 1 ≤ n) (h : ∀ l ∈ ls, l < n) (hv : v < n) : (iterN n (signsN n ls) d).testBit v = true ↔ ∃ cs : List Int, cs.length = ls.length ∧ absL cs ≤ d ∧ endW n ls cs = v := by
  constructor
  · exact word_of_in n ls d h1 h v hv
  · rintro ⟨cs, _, b, c⟩
    rw [← c]
    exact in_of_word n ls d h1 h ls (fun _ hl => hl) cs b
