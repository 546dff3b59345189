/- Plays, the program's side: what the program's short ways make of a play, by the kernel. -/
import Derived.Test.YtaklmepioeoohaaPlyH
import Derived.Test.YtaklmepioeoohaaGJ
namespace Go.Proofs.Ytaklmepioeoohaa
set_option linter.unusedVariables false
/-- A play, as the program asks for it. -/
def isP (n s : Nat) : Bool := (Nat.ble 3 n && Nat.beq (n % 2) 1) && Nat.beq (turnN n s (-1)) (otherN n s)
theorem isP_all : ((List.range 13).all fun n => allH (fun s => isP n s == playB n s) n 0) = true := by decide +kernel
theorem isP_play (n s : Nat) (h2 : n ≤ 12) (hs : s < 2 ^ n) : isP n s = playB n s := by
  have ha := allH_at (fun s => isP n s == playB n s) n 0 s (List.all_eq_true.1 isP_all n (List.mem_range.2 (by omega))) (Nat.zero_le _) (by omega)
  simpa using ha
def twiceK (n s : Nat) : Bool := !playB n s || Nat.beq (sumN n s (s ||| 1)) (twiceN n s)
theorem twice_all : ((List.range 13).all fun n => allH (twiceK n) n 0) = true := by decide +kernel
theorem twice_sum (n s : Nat) (h2 : n ≤ 12) (hs : s < 2 ^ n) (h : playB n s = true) : sumN n s (s ||| 1) = twiceN n s := by
  have ha := allH_at (twiceK n) n 0 s (List.all_eq_true.1 twice_all n (List.mem_range.2 (by omega))) (Nat.zero_le _) (by omega)
  unfold twiceK at ha
  rw [h] at ha
  exact Nat.eq_of_beq_eq_true ha
/-- The least one of a play's turns by units. -/
def lturnS (n s v x : Nat) : Nat := min x (turnN n s (v : Int))
def lturnN (n s : Nat) : Nat := overSet (unitsN n) (lturnS n s) n s
theorem lturnS_lt (n s v x : Nat) (hv : v < n) (hx : x < 2 ^ n) : lturnS n s v x < 2 ^ n := by unfold lturnS; omega
theorem lturnN_lt (n s : Nat) (hs : s < 2 ^ n) : lturnN n s < 2 ^ n := overSet_lt _ n _ _ _ _ hs (Nat.le_refl n) (lturnS_lt n s)
/-- How many of the first i plays are the least ones of their classes. -/
def ownQ (n : Nat) (xs : List Int) : Nat → Nat
  | 0 => 0
  | i + 1 => if Nat.beq (lturnN n (atN xs i)) (atN xs i) then ownQ n xs i + 1 else ownQ n xs i
theorem ownQ_le (n : Nat) (xs : List Int) (i : Nat) : ownQ n xs i ≤ i := by
  induction i with
  | zero => exact Nat.le_refl _
  | succ i ih =>
    show (if Nat.beq (lturnN n (atN xs i)) (atN xs i) then ownQ n xs i + 1 else ownQ n xs i) ≤ i + 1
    split <;> omega
def ownK (n : Nat) : Bool := Nat.beq (ownQ n (playL n (2 ^ (n - 1))) (2 ^ ((n - 1) / 2))) (runK n (playL n (2 ^ (n - 1))) (2 ^ ((n - 1) / 2))).2
theorem own_all : ([3, 5, 7, 9, 11].all ownK) = true := by decide +kernel
theorem own_cls (n : Nat) (h1 : 3 ≤ n) (h2 : n ≤ 11) (h3 : n % 2 = 1) : ownQ n (playL n (2 ^ (n - 1))) (playL n (2 ^ (n - 1))).length = clsAll n := by
  have hm : n ∈ [3, 5, 7, 9, 11] := by
    have : n = 3 ∨ n = 5 ∨ n = 7 ∨ n = 9 ∨ n = 11 := by omega
    rcases this with rfl | rfl | rfl | rfl | rfl <;> simp
  have h := List.all_eq_true.1 own_all n hm
  unfold ownK at h
  rw [← playL_size n h1 h2 h3, (runK_is n _ _).2] at h
  exact Nat.eq_of_beq_eq_true h
/-- The plays that have come, as a list. -/
def appS (m : List Int) (x : Nat) : List Int := m ++ [(x : Int)]
theorem foldP_app (l : List Nat) : (foldP appS [] l).length = l.length := by
  have h : ∀ (l : List Nat) (m : List Int), (l.foldl appS m).length = m.length + l.length := by
    intro l
    induction l with
    | nil => intro m; rfl
    | cons v l ih => intro m; rw [List.foldl_cons, ih]; simp [appS]; omega
  have := h l []
  simpa [foldP] using this
theorem odd_noPlay (n j : Nat) : playB n (2 * j + 1) = false := by
  cases h : playB n (2 * j + 1)
  · rfl
  · have := ((play_iff n _).1 h).2.2.1
    rw [bit0] at this
    simp at this
theorem plays_run (n : Nat) (p : Nat → Bool) (hp : ∀ x, p x = playB n x) (j : Nat) : runP appS p [] (2 * j) = playL n j := by
  induction j with
  | zero => rfl
  | succ j ih =>
    have e : 2 * (j + 1) = 2 * j + 1 + 1 := by omega
    rw [e]
    show (if p (2 * j + 1) then appS (if p (2 * j) then appS (runP appS p [] (2 * j)) (2 * j) else runP appS p [] (2 * j)) (2 * j + 1) else (if p (2 * j) then appS (runP appS p [] (2 * j)) (2 * j) else runP appS p [] (2 * j))) = (if playB n (2 * j) then playL n j ++ [((2 * j : Nat) : Int)] else playL n j)
    rw [hp, hp, odd_noPlay, ih]
    rfl
end Go.Proofs.Ytaklmepioeoohaa
