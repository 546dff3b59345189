/- Orders of plays: the first list in which each place beats the next one (promise 73), by the kernel. -/
import Derived.Test.YtaklmepioeoohaaGQ
import Derived.Test.YtaklmepioeoohaaGG
namespace Go.Proofs.Ytaklmepioeoohaa
set_option linter.unusedVariables false
/-- Whether v may come behind a (the last one so far, if there is one). -/
def mayO (n s : Nat) (a : Option Nat) (met v : Nat) : Bool := !met.testBit v && (match a with
  | none => true
  | some u => beatB n s u v)
/-- The first way to go on by m more places. -/
def ordN (n s : Nat) : Nat → Option Nat → Nat → Option (List Int)
  | 0, _, _ => some []
  | m + 1, a, met => fstTo (fun v => if mayO n s a met v then (ordN n s m (some v) (met ||| 2 ^ v)).map (fun l => (v : Int) :: l) else none) n
def seeO (l : List Int) : Nat → Nat
  | 0 => 0
  | i + 1 => seeO l i ||| 2 ^ atN l i
/-- Whether a list is an order. -/
def okO (n s : Nat) (l : List Int) : Bool := Nat.beq l.length n && (Nat.beq (atN l 0) 0 && (Nat.beq (seeO l n) (2 ^ n - 1) && (List.range n).all fun i => decide (l.getD i 0 = ((atN l i : Nat) : Int)) && (Nat.blt (atN l i) n && (Nat.beq i 0 || beatB n s (atN l (i - 1)) (atN l i)))))
def ordL (n s : Nat) : List Int := (ordN n s n none 0).getD []
def ordK (n s : Nat) : Bool := !playB n s || ((ordN n s n none 0).isSome && okO n s (ordL n s))
theorem ord_all : ((List.range 10).all fun n => allH (ordK n) n 0) = true := by decide +kernel
theorem ord_says (n s : Nat) (h2 : n ≤ 9) (hs : s < 2 ^ n) (h : playB n s = true) : ordN n s n none 0 = some (ordL n s) ∧ (ordL n s).length = n ∧ atN (ordL n s) 0 = 0 ∧ seeO (ordL n s) n = 2 ^ n - 1 ∧ ∀ i, i < n → (ordL n s).getD i 0 = ((atN (ordL n s) i : Nat) : Int) ∧ atN (ordL n s) i < n ∧ (i ≠ 0 → beatB n s (atN (ordL n s) (i - 1)) (atN (ordL n s) i) = true) := by
  have ha := allH_at (ordK n) n 0 s (List.all_eq_true.1 ord_all n (List.mem_range.2 (by omega))) (Nat.zero_le _) (by omega)
  unfold ordK at ha
  rw [h] at ha
  have hb : ((ordN n s n none 0).isSome && okO n s (ordL n s)) = true := ha
  rw [Bool.and_eq_true] at hb
  obtain ⟨h1, h3⟩ := hb
  unfold okO at h3
  rw [Bool.and_eq_true, Bool.and_eq_true, Bool.and_eq_true] at h3
  obtain ⟨a, b, c, d⟩ := h3
  refine ⟨?_, Nat.eq_of_beq_eq_true a, Nat.eq_of_beq_eq_true b, Nat.eq_of_beq_eq_true c, fun i hi => ?_⟩
  · unfold ordL
    cases ho : ordN n s n none 0
    · rw [ho] at h1; cases h1
    · rfl
  · have e := List.all_eq_true.1 d i (List.mem_range.2 hi)
    rw [Bool.and_eq_true, Bool.and_eq_true, Bool.or_eq_true] at e
    refine ⟨of_decide_eq_true e.1, Nat.blt_eq.mp e.2.1, fun hz => ?_⟩
    rcases e.2.2 with k | k
    · exact absurd (Nat.eq_of_beq_eq_true k) hz
    · exact k
end Go.Proofs.Ytaklmepioeoohaa
