/- FnExactWordLaws over given contracts of the program. Written by gen116.py. -/
import Derived.Test.YtnlalccnhpblkaaWrdU
import Derived.Test.YtnlalccnhpblkaaWrdR
namespace Go.Proofs.Ytnlalccnhpblkaa
open Go.RowKit Go.Shelf
set_option linter.unusedVariables false
/-- The laws as texts. -/
def lawsO (n : Nat) (xs : List Int) (k : Nat) : List ByteArray := (lawsN n (letL xs) k).map fun cs => toB (textC 0 cs)
def NoWordLaws : Prop := ∀ (n : Int) (lv : Value) (xs : List Int) (k : Int) (b : Nat) (W : World), ¬ (LetIn n xs ∧ 1 ≤ k ∧ k ≤ 6) → xs.length ≤ 2000000 → IsInts W b lv xs → Calls Try.prog 18 #[.int .i64 n, lv, .int .i64 k] W (StrsRes W [] false)
def YesWordLaws : Prop := ∀ (n k : Nat) (lv : Value) (xs : List Int) (b : Nat) (W : World), LetIn (n : Int) xs → 1 ≤ k → k ≤ 6 → IsInts W b lv xs → Calls Try.prog 18 #[.int .i64 (n:Int), lv, .int .i64 (k:Int)] W (StrsRes W (lawsO n xs k) true)
theorem lex_len (m k : Nat) (hm : m ≤ 3) (hk : k ≤ 6) : (lexC m k).length ≤ 100000 := by
  have h : ∀ m' : Fin 4, ∀ k' : Fin 7, (lexC m'.val k'.val).length ≤ 100000 := by decide +kernel
  exact h ⟨m, by omega⟩ ⟨k, by omega⟩
theorem lawsO_len (n : Nat) (xs : List Int) (k : Nat) (h3 : xs.length ≤ 3) (hk : k ≤ 6) : (lawsO n xs k).length ≤ 100000 := by
  unfold lawsO lawsN
  rw [List.length_map]
  exact Nat.le_trans (List.length_filter_le _ _) (lex_len _ k (by rw [let_len]; exact h3) hk)
end Go.Proofs.Ytnlalccnhpblkaa
