import Derived.Test.YthccchelemnnfaaRingB
namespace Go.Proofs.Ythccchelemnnfaa
open Go.RowKit
set_option linter.unusedVariables false
theorem notIn_cases {n s : Int} (h : NotIn n s) : ¬ (1 ≤ n ∧ n ≤ 12) ∨ (∃ m : Nat, n = (m : Int) ∧ 1 ≤ m ∧ m ≤ 12 ∧ ¬ (0 ≤ s ∧ s < ((2 ^ m : Nat) : Int))) := by
  by_cases hn : 1 ≤ n ∧ n ≤ 12
  · right
    refine ⟨n.toNat, by omega, by omega, by omega, fun hh => h ⟨hn.1, hn.2, hh.1, ?_⟩⟩
    have := cast_pow n.toNat
    omega
  · exact .inl hn
theorem not_notIn {n s : Int} (h : ¬ NotIn n s) : ∃ m t : Nat, n = (m : Int) ∧ s = (t : Int) ∧ 1 ≤ m ∧ m ≤ 12 ∧ t < 2 ^ m := by
  unfold NotIn at h
  have hh := Classical.not_not.1 h
  have := cast_pow n.toNat
  exact ⟨n.toNat, s.toNat, by omega, by omega, by omega, by omega, by omega⟩
theorem of1_yes (n s : Nat) (w : World) (h1 : 1 ≤ n) (h2 : n ≤ 12) (hs : s < 2 ^ n) :
    Calls Try.prog 42 #[.int .i64 (n:Int), .slice (some ⟨w.heap.size, 0, none⟩) 1 1] (w.alloc (.cells #[.int .i64 (s:Int)] 3)) fun e w' => e = .returned (.tuple #[.agg #[.int .i64 (n:Int)], .bool true]) ∧ Below w.heap.size w w' :=
  (ringOf_in n (fun _ => (s:Int)) 1 w.heap.size (w.alloc (.cells #[.int .i64 (s:Int)] 3)) h1 h2 (by simp) (by omega)
    (fun i hi => by obtain rfl : i = 0 := by omega
                    simp) (fun i hi => by omega)).mono
    fun e w' ⟨he, hb⟩ => ⟨he, ((Below.refl _ _).alloc (Nat.le_refl _) _).trans (hb.mono (by simp))⟩
theorem of1_no (n s : Int) (w : World) (h : NotIn n s) :
    Calls Try.prog 42 #[.int .i64 n, .slice (some ⟨w.heap.size, 0, none⟩) 1 1] (w.alloc (.cells #[.int .i64 s] 3)) fun e w' => e = .returned (.tuple #[.agg #[.int .i64 0], .bool false]) ∧ Below w.heap.size w w' := by
  rcases notIn_cases h with h | ⟨m, rfl, h1, h2, h⟩
  · exact (ringOf_out n _ _ h).mono fun e w' ⟨he, hb⟩ => ⟨he, ((Below.refl _ _).alloc (Nat.le_refl _) _).trans (hb.mono (by simp))⟩
  · exact (ringOf_bad m (fun _ => s) 1 w.heap.size (w.alloc (.cells #[.int .i64 s] 3)) h1 h2 (by simp) (by omega)
      (fun i hi => by obtain rfl : i = 0 := by omega
                      simp) ⟨0, by omega, h⟩).mono
      fun e w' ⟨he, hb⟩ => ⟨he, ((Below.refl _ _).alloc (Nat.le_refl _) _).trans (hb.mono (by simp))⟩
theorem of2_yes (n s t : Nat) (w : World) (h1 : 1 ≤ n) (h2 : n ≤ 12) (hs : s < 2 ^ n) (ht : t < 2 ^ n) :
    Calls Try.prog 42 #[.int .i64 (n:Int), .slice (some ⟨w.heap.size, 0, none⟩) 2 2] (w.alloc (.cells #[.int .i64 (s:Int), .int .i64 (t:Int)] 3)) fun e w' => e = .returned (.tuple #[.agg #[.int .i64 (n:Int)], .bool true]) ∧ Below w.heap.size w w' :=
  (ringOf_in n (fun i => if i = 0 then (s:Int) else (t:Int)) 2 w.heap.size (w.alloc (.cells #[.int .i64 (s:Int), .int .i64 (t:Int)] 3)) h1 h2 (by simp) (by omega)
    (fun i hi => by
      have hi' : i = 0 ∨ i = 1 := by omega
      rcases hi' with rfl | rfl <;> simp) (fun i hi => by split <;> omega)).mono
    fun e w' ⟨he, hb⟩ => ⟨he, ((Below.refl _ _).alloc (Nat.le_refl _) _).trans (hb.mono (by simp))⟩
theorem of2_no (n s t : Int) (w : World) (h : NotIn n s ∨ NotIn n t) :
    Calls Try.prog 42 #[.int .i64 n, .slice (some ⟨w.heap.size, 0, none⟩) 2 2] (w.alloc (.cells #[.int .i64 s, .int .i64 t] 3)) fun e w' => e = .returned (.tuple #[.agg #[.int .i64 0], .bool false]) ∧ Below w.heap.size w w' := by
  have h' : ¬ (1 ≤ n ∧ n ≤ 12) ∨ (∃ m : Nat, n = (m : Int) ∧ 1 ≤ m ∧ m ≤ 12 ∧ (¬ (0 ≤ s ∧ s < ((2 ^ m : Nat) : Int)) ∨ ¬ (0 ≤ t ∧ t < ((2 ^ m : Nat) : Int)))) := by
    rcases h with h | h <;> rcases notIn_cases h with h | ⟨m, h0, h1, h2, h3⟩
    · exact .inl h
    · exact .inr ⟨m, h0, h1, h2, .inl h3⟩
    · exact .inl h
    · exact .inr ⟨m, h0, h1, h2, .inr h3⟩
  rcases h' with h | ⟨m, rfl, h1, h2, h⟩
  · exact (ringOf_out n _ _ h).mono fun e w' ⟨he, hb⟩ => ⟨he, ((Below.refl _ _).alloc (Nat.le_refl _) _).trans (hb.mono (by simp))⟩
  · exact (ringOf_bad m (fun i => if i = 0 then s else t) 2 w.heap.size (w.alloc (.cells #[.int .i64 s, .int .i64 t] 3)) h1 h2 (by simp) (by omega)
      (fun i hi => by
        have hi' : i = 0 ∨ i = 1 := by omega
        rcases hi' with rfl | rfl <;> simp) (by
        rcases h with h | h
        · exact ⟨0, by omega, h⟩
        · exact ⟨1, by omega, h⟩)).mono
      fun e w' ⟨he, hb⟩ => ⟨he, ((Below.refl _ _).alloc (Nat.le_refl _) _).trans (hb.mono (by simp))⟩
end Go.Proofs.Ythccchelemnnfaa
