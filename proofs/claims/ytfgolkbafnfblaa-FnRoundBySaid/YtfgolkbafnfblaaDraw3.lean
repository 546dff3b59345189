/- Drawing a ring and one set, or two. -/
import Derived.Test.YtfgolkbafnfblaaDraw2
namespace Go.Proofs.Ytfgolkbafnfblaa
open Go.RowKit Go.Shelf
set_option linter.unusedVariables false
theorem Aside.trans {T : Nat} {A B C : World} (h : Aside T A B) (k : Aside T B C) : Aside T A C :=
  ⟨k.os.trans h.os, k.tape.trans h.tape, k.output.trans h.output, Nat.le_trans h.size k.size, fun i hi hn => (k.block i (Nat.lt_of_lt_of_le hi h.size) hn).trans (h.block i hi hn)⟩
/-- A reader that stands at p. -/
structure Reader (W : World) (B R : Nat) (p : Nat) : Prop where
  it : ∃ A len cap f, RdAt W R A len cap p ∧ Code W B A len f ∧ len ≤ 2000
  le : B ≤ R
theorem Reader.lt {W : World} {B R p : Nat} (h : Reader W B R p) : R < W.heap.size := by
  obtain ⟨A, len, cap, f, h1, _⟩ := h.it
  exact h1.lt
theorem Reader.drewN {W : World} {B R p : Nat} (h : Reader W B R p) (k : Nat) : Reader (W.drewN k) B R p := by
  obtain ⟨⟨A, len, cap, f, h1, h2, h3⟩, hB⟩ := h
  exact ⟨⟨A, len, cap, f, h1, ⟨h2.byte, h2.cell⟩, h3⟩, hB⟩
def DrawPost (W : World) (B R p : Nat) (n : Int) (e : Ending) (w' : World) : Prop :=
  ∃ v : Nat, e = .returned (.int .i64 (v : Int)) ∧ (1 ≤ n → (v : Int) < n) ∧ Reader w' B R (p + 1) ∧ Aside R W w'
theorem draw_any (W : World) (B R p : Nat) (n : Int) (h : Reader W B R p) (hp : p ≤ 1000) (hn : n ≤ 1000000) (hn0 : -1000000 ≤ n) :
    Calls Try.prog 32 #[.pointer (some ⟨R, 0, none⟩), .int .i64 n] W (DrawPost W B R p n) := by
  have hlt := h.lt
  obtain ⟨⟨A, len, cap, f, h1, h2, h3⟩, hB⟩ := h
  exact (pick_any W R B len cap p A f n h1 h2 hB h3 hp hn hn0).mono fun e w' ⟨v, e1, e2, e3, e4, e5⟩ =>
    ⟨v, e1, e2, ⟨⟨A, len, cap, f, e4, h2.aside e5 hB (by omega), h3⟩, hB⟩, e5⟩
def SetPost (W : World) (B R p : Nat) (e : Ending) (w' : World) : Prop :=
  ∃ n s q : Nat, e = .returned (.tuple #[.int .i64 (n : Int), .int .i64 (s : Int)]) ∧ 1 ≤ n ∧ n ≤ 13 ∧ s < 2 ^ 13 ∧ q ≤ p + 20 ∧ Reader w' B R q ∧ Aside R W w'
def TwoPost (W : World) (e : Ending) (w' : World) : Prop :=
  ∃ n s t : Nat, e = .returned (.tuple #[.int .i64 (n : Int), .int .i64 (s : Int), .int .i64 (t : Int)]) ∧ 1 ≤ n ∧ n ≤ 13 ∧ s < 2 ^ 13 ∧ t < 2 ^ 13 ∧ Below W.heap.size W w'
end Go.Proofs.Ytfgolkbafnfblaa
