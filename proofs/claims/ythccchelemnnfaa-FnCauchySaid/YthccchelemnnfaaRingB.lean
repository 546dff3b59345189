import Derived.Test.YthccchelemnnfaaRingA
namespace Go.Proofs.Ythccchelemnnfaa
open Go.RowKit
set_option linter.unusedVariables false
theorem ringOf_out (n : Int) (sv : Value) (w : World) (h : ¬ (1 ≤ n ∧ n ≤ 12)) :
    Calls Try.prog 42 #[.int .i64 n, sv] w fun e w' => e = .returned (.tuple #[.agg #[.int .i64 0], .bool false]) ∧ Below w.heap.size w w' := by
  by_cases h1 : 1 ≤ n
  · have h2 : ¬ n ≤ 12 := fun hh => h ⟨h1, hh⟩
    clear h
    go_enter Try.func42, Try.ntmps42
    go_wp2
    exact bodyPost_ret (v := .tuple #[.agg #[.int .i64 0], .bool false]) (by simp [results, Try.results42, go_sem]) rfl ⟨rfl, (Below.refl _ _).alloc (Nat.le_refl _) _⟩
  · clear h
    go_enter Try.func42, Try.ntmps42
    go_wp2
    exact bodyPost_ret (v := .tuple #[.agg #[.int .i64 0], .bool false]) (by simp [results, Try.results42, go_sem]) rfl ⟨rfl, (Below.refl _ _).alloc (Nat.le_refl _) _⟩
theorem ringOf_nil (n : Nat) (w : World) (h1 : 1 ≤ n) (h2 : n ≤ 12) :
    Calls Try.prog 42 #[.int .i64 (n:Int), .slice none 0 0] w fun e w' => e = .returned (.tuple #[.agg #[.int .i64 (n:Int)], .bool true]) ∧ Below w.heap.size w w' := by
  go_enter Try.func42, Try.ntmps42
  go_wp2
  go_loopw [20] (fun v wr => v = .int .i64 0 ∧ wr = ((w.alloc (.cells #[.int .i64 0] 42)).alloc (.cells #[.int .i64 (n:Int)] 42))) (fun _ _ => 0)
  case atStart => exact ⟨rfl, rfl⟩
  case round =>
    obtain ⟨rfl, rfl⟩ := hrel
    go_wp2
    exact bodyPost_ret (v := .tuple #[.agg #[.int .i64 (n:Int)], .bool true]) (by simp [results, Try.results42, go_sem]) rfl ⟨rfl, ((Below.refl _ _).alloc (Nat.le_refl _) _).alloc (by simp) _⟩
theorem ringOf_in (n : Nat) (f : Nat → Int) (len b : Nat) (w : World) (h1 : 1 ≤ n) (h2 : n ≤ 12) (hb : b < w.heap.size) (hl : len ≤ 10)
    (hc : ∀ i : Nat, i < len → w.cell? ⟨b, i, none⟩ = some (.int .i64 (f i))) (hz : ∀ i : Nat, i < len → 0 ≤ f i ∧ f i < ((2 ^ n : Nat) : Int)) :
    Calls Try.prog 42 #[.int .i64 (n:Int), .slice (some ⟨b, 0, none⟩) len len] w fun e w' => e = .returned (.tuple #[.agg #[.int .i64 (n:Int)], .bool true]) ∧ Below w.heap.size w w' := by
  have HC := Lib.hid hc
  have HZ := Lib.hid hz
  clear hc hz
  go_enter Try.func42, Try.ntmps42
  go_wp2
  go_loopw [20] (fun v wr => ∃ k : Nat, k ≤ len ∧ v = .int .i64 (k:Int) ∧ Below (w.heap.size + 2) ((w.alloc (.cells #[.int .i64 0] 42)).alloc (.cells #[.int .i64 (n:Int)] 42)) wr ∧ Hid True) (fun v _ => len - (intOf v).toNat)
  case atStart => exact ⟨0, Nat.zero_le _, rfl, Below.refl _ _, Lib.hid trivial⟩
  case round =>
    obtain ⟨k, hk, rfl, hB, _⟩ := hrel
    have hc4 : wr.cell? ⟨w.heap.size, 0, none⟩ = some (.int .i64 0) := (hB.cell (p := ⟨w.heap.size, 0, none⟩) (by simp)).trans (by simp)
    have hc6 : wr.cell? ⟨w.heap.size + 1, 0, none⟩ = some (.int .i64 (n:Int)) := (hB.cell (p := ⟨w.heap.size + 1, 0, none⟩) (by simp)).trans (by simp)
    have hf4 : wr.frozen? ⟨w.heap.size, 0, none⟩ = false := (hB.frozen (p := ⟨w.heap.size, 0, none⟩) (by simp)).trans (by simp)
    have hz : w.heap.size + 2 ≤ wr.heap.size := by have := hB.size; simpa using this
    by_cases hlt : k < len
    · have hck : wr.cell? ⟨b, k, none⟩ = some (.int .i64 (f k)) := (hB.cell (p := ⟨b, k, none⟩) (by simp; omega)).trans (by
        have h := HC.out k hlt
        rw [World.cell?_alloc_old _ _ _ (by simp; omega), World.cell?_alloc_old _ _ _ (by simp; omega)]
        exact h)
      have hr := HZ.out k hlt
      obtain ⟨hr1, hr2⟩ := hr
      generalize hfk : f k = z at hck hr1 hr2
      clear hfk
      have ha : ¬ ((2 ^ n - 1 : Nat) : Int) < z := by have := Nat.two_pow_pos n; omega
      go_wp2_with (go_at_call 64; refine (all_any n _ h2).mono ?_; rintro e w2 ⟨rfl, hb2⟩)
      go_roundw
      case rel => exact ⟨k + 1, by omega, by go_num, hB.trans (hb2.mono (by omega)), Lib.hid trivial⟩
      case measure => simp [intOf]; omega
    · have e : k = len := by omega
      subst e
      go_wp2
      refine bodyPost_ret (v := .tuple #[.agg #[.int .i64 (n:Int)], .bool true]) ?_ rfl ⟨rfl, ?_⟩
      · simp [results, Try.results42, go_sem, hc4]
      · exact ((((Below.refl w.heap.size w).alloc (Nat.le_refl _) _).alloc (by simp) _).trans (hB.mono (by omega))).setCell (by simp) _
theorem ringOf_bad (n : Nat) (f : Nat → Int) (len b : Nat) (w : World) (h1 : 1 ≤ n) (h2 : n ≤ 12) (hb : b < w.heap.size) (hl : len ≤ 10)
    (hc : ∀ i : Nat, i < len → w.cell? ⟨b, i, none⟩ = some (.int .i64 (f i))) (hz : ∃ i : Nat, i < len ∧ ¬ (0 ≤ f i ∧ f i < ((2 ^ n : Nat) : Int))) :
    Calls Try.prog 42 #[.int .i64 (n:Int), .slice (some ⟨b, 0, none⟩) len len] w fun e w' => e = .returned (.tuple #[.agg #[.int .i64 0], .bool false]) ∧ Below w.heap.size w w' := by
  have HC := Lib.hid hc
  have HZ := Lib.hid hz
  clear hc hz
  go_enter Try.func42, Try.ntmps42
  go_wp2
  go_loopw [20] (fun v wr => ∃ k : Nat, k ≤ len ∧ v = .int .i64 (k:Int) ∧ Below (w.heap.size + 2) ((w.alloc (.cells #[.int .i64 0] 42)).alloc (.cells #[.int .i64 (n:Int)] 42)) wr ∧ Hid (∀ i : Nat, i < k → 0 ≤ f i ∧ f i < ((2 ^ n : Nat) : Int))) (fun v _ => len - (intOf v).toNat)
  case atStart => exact ⟨0, Nat.zero_le _, rfl, Below.refl _ _, Lib.hid (fun i hi => by omega)⟩
  case round =>
    obtain ⟨k, hk, rfl, hB, hok⟩ := hrel
    have hc4 : wr.cell? ⟨w.heap.size, 0, none⟩ = some (.int .i64 0) := (hB.cell (p := ⟨w.heap.size, 0, none⟩) (by simp)).trans (by simp)
    have hc6 : wr.cell? ⟨w.heap.size + 1, 0, none⟩ = some (.int .i64 (n:Int)) := (hB.cell (p := ⟨w.heap.size + 1, 0, none⟩) (by simp)).trans (by simp)
    have hf4 : wr.frozen? ⟨w.heap.size, 0, none⟩ = false := (hB.frozen (p := ⟨w.heap.size, 0, none⟩) (by simp)).trans (by simp)
    have hz : w.heap.size + 2 ≤ wr.heap.size := by have := hB.size; simpa using this
    by_cases hlt : k < len
    · have hck : wr.cell? ⟨b, k, none⟩ = some (.int .i64 (f k)) := (hB.cell (p := ⟨b, k, none⟩) (by simp; omega)).trans (by
        have h := HC.out k hlt
        rw [World.cell?_alloc_old _ _ _ (by simp; omega), World.cell?_alloc_old _ _ _ (by simp; omega)]
        exact h)
      by_cases hr : 0 ≤ f k ∧ f k < ((2 ^ n : Nat) : Int)
      rotate_left
      · clear hok HZ HC hc6
        obtain ⟨z, hfk⟩ : ∃ z, f k = z := ⟨_, rfl⟩
        rw [hfk] at hck hr
        clear hfk
        have hc6 : wr.cell? ⟨w.heap.size + 1, 0, none⟩ = some (.int .i64 (n:Int)) := (hB.cell (p := ⟨w.heap.size + 1, 0, none⟩) (by simp)).trans (by simp)
        by_cases hneg : z < 0
        · clear hr
          go_wp2
          exact bodyPost_ret (v := .tuple #[.agg #[.int .i64 0], .bool false]) (by simp [results, Try.results42, go_sem, hc4]) rfl ⟨rfl, ((((Below.refl w.heap.size w).alloc (Nat.le_refl _) _).alloc (by simp) _).trans (hB.mono (by omega))).setCell (by simp) _⟩
        · have ha : ((2 ^ n - 1 : Nat) : Int) < z := by have := Nat.two_pow_pos n; omega
          clear hr
          go_wp2_with (go_at_call 64; refine (all_any n _ h2).mono ?_; rintro e w2 ⟨rfl, hb2⟩; have hc42 := (hb2.cell (p := ⟨w.heap.size, 0, none⟩) (by simp; omega)).trans hc4; have hf42 := (hb2.frozen (p := ⟨w.heap.size, 0, none⟩) (by simp; omega)).trans hf4)
          refine bodyPost_ret (v := .tuple #[.agg #[.int .i64 0], .bool false]) ?_ rfl ⟨rfl, ?_⟩
          · simp [results, Try.results42, go_sem, hc42]
          · exact ((((Below.refl w.heap.size w).alloc (Nat.le_refl _) _).alloc (by simp) _).trans ((hB.trans (hb2.mono (by omega))).mono (by omega))).setCell (by simp) _
      obtain ⟨hr1, hr2⟩ := hr
      have hokk : Hid (∀ i : Nat, i < k + 1 → 0 ≤ f i ∧ f i < ((2 ^ n : Nat) : Int)) := Lib.hid (fun i hi => by
        by_cases e : i = k
        · subst e; exact ⟨hr1, hr2⟩
        · exact hok.out i (by omega))
      generalize hfk : f k = z at hck hr1 hr2
      clear hfk
      have ha : ¬ ((2 ^ n - 1 : Nat) : Int) < z := by have := Nat.two_pow_pos n; omega
      go_wp2_with (go_at_call 64; refine (all_any n _ h2).mono ?_; rintro e w2 ⟨rfl, hb2⟩)
      go_roundw
      case rel => exact ⟨k + 1, by omega, by go_num, hB.trans (hb2.mono (by omega)), hokk⟩
      case measure => simp [intOf]; omega
    · exfalso
      obtain ⟨i, hi, hbad⟩ := HZ.out
      exact hbad (hok.out i (by omega))
end Go.Proofs.Ythccchelemnnfaa
