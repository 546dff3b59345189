/- Words: what the promises of distances ask of the steps of letters. -/
import Derived.Test.YtnlalccnhpblkaaDrawO
import Derived.Test.YtnlalccnhpblkaaGV
import Derived.Test.YtnlalccnhpblkaaWrdN
import Derived.Test.YtnlalccnhpblkaaStepWA
import Derived.Test.YtnlalccnhpblkaaStepQ
namespace Go.Proofs.Ytnlalccnhpblkaa
open Go.RowKit Go.Shelf
set_option linter.unusedVariables false
theorem mask_snoc (ls : List Nat) (l : Nat) : maskL (ls ++ [l]) = maskL ls ||| 2 ^ l := by
  induction ls with
  | nil => show 2 ^ l ||| 0 = 0 ||| 2 ^ l; simp
  | cons a ls ih =>
    show 2 ^ a ||| maskL (ls ++ [l]) = (2 ^ a ||| maskL ls) ||| 2 ^ l
    rw [ih, Nat.or_assoc]
theorem let_mem (n : Int) (xs : List Int) (hL : LetIn n xs) : ∀ l ∈ letL xs, 1 ≤ l ∧ l < n.toNat := fun l hl => by
  unfold letL at hl
  obtain ⟨z, hz, rfl⟩ := List.mem_map.1 hl
  obtain ⟨i, hi, rfl⟩ := List.getElem_of_mem hz
  have h9 := hL.2.2.2 i hi
  rw [List.getD_eq_getElem?_getD, List.getElem?_eq_getElem hi] at h9
  have h8 : 1 ≤ xs[i] ∧ xs[i] ≤ n - 1 := h9
  omega
/-- The steps of the letters, the first k of them gone through. -/
def maskTo (xs : List Int) (k : Nat) : Nat := maskL ((letL xs).take k)
theorem maskTo_all (xs : List Int) : maskTo xs xs.length = maskL (letL xs) := by
  unfold maskTo
  rw [List.take_of_length_le (by rw [let_len]; exact Nat.le_refl _)]
theorem maskTo_lt (n : Nat) (xs : List Int) (hL : LetIn (n : Int) xs) (k : Nat) : maskTo xs k < 2 ^ n :=
  mask_lt n _ fun l hl => by have := let_mem (n : Int) xs hL l (List.mem_of_mem_take hl); omega
theorem maskTo_bit0 (n : Nat) (xs : List Int) (hL : LetIn (n : Int) xs) (k : Nat) : (maskTo xs k).testBit 0 = false := by
  cases h : (maskTo xs k).testBit 0 with
  | false => rfl
  | true =>
    have := let_mem (n : Int) xs hL 0 (List.mem_of_mem_take ((mask_bit _ 0).1 h))
    omega
theorem steps_fit (n : Nat) (xs : List Int) (hL : LetIn (n : Int) xs) (k : Nat) (hk : k < xs.length) : ∃ x : Nat, xs.getD k 0 = (x : Int) ∧ x ≤ 11 ∧
    bits .or .i64 ((maskTo xs k : Nat) : Int) (wrap64 (2 ^ x)) = ((maskTo xs (k + 1) : Nat) : Int) ∧ bits .or .i64 ((maskTo xs k : Nat) : Int) (IntKind.i64.wrap (2 ^ x)) = ((maskTo xs (k + 1) : Nat) : Int) := by
  have h9 := hL.2.2.2 k hk
  have hn := hL.1
  have hx : xs.getD k 0 = (((xs.getD k 0).toNat : Nat) : Int) := by omega
  have e : maskTo xs (k + 1) = maskTo xs k ||| 2 ^ (xs.getD k 0).toNat := by
    unfold maskTo
    have hk2 : k < (letL xs).length := by rw [let_len]; exact hk
    have e2 : (letL xs)[k]'hk2 = (xs.getD k 0).toNat := by simp [letL, List.getD_eq_getElem?_getD, List.getElem?_eq_getElem hk]
    rw [List.take_succ_eq_append_getElem hk2, mask_snoc, e2]
  have hlt : maskTo xs k < 2 ^ 40 := Nat.lt_of_lt_of_le (maskTo_lt n xs hL k) (Nat.pow_le_pow_right (by omega) (by omega))
  have hw := with_nat (maskTo xs k) (xs.getD k 0).toNat hlt (by omega)
  rw [← e] at hw
  exact ⟨_, hx, by omega, hw, by rw [IntWalk.i64_left]; exact hw⟩
theorem some_of_ints {W : World} {b : Nat} {A : Option Addr} {cap : Nat} {xs : List Int} (h : IsInts W b (.slice A xs.length cap) xs) (h1 : 1 ≤ xs.length) : ∃ g, A = some ⟨g, 0, none⟩ := by
  rcases h.shape with ⟨e1, e2⟩ | ⟨g, cap2, e1, _⟩
  · rw [e2] at h1; simp at h1
  · injection e1 with e1; exact ⟨g, e1⟩
end Go.Proofs.Ytnlalccnhpblkaa
