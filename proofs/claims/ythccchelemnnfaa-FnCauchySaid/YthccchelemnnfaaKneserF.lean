/- Sums of two sets of a ring of at most 12 places, gone through one by one: what is computed. -/
namespace Go.Proofs.Ythccchelemnnfaa
set_option linter.unusedVariables false
def popC (x : Nat) : Nat := (x * 35185445863425 &&& 76861433640456465) % 15
def rotC (n b v : Nat) : Nat := (b <<< v ||| b >>> (n - v)) &&& (2 ^ n - 1)
def asks (n : Nat) : List Nat := ([2, 3, 5, 7, 11].filter fun p => n % p == 0).map fun p => n / p
def aperL (n o : Nat) : List Nat → Bool
  | [] => true
  | d :: l => !(Nat.beq (rotC n o d) o) && aperL n o l
def sumF (n a h : Nat) : Nat → Nat
  | 0 => 0
  | v + 1 => if Nat.beq ((h >>> v) % 2) 1 then sumF n a h v ||| rotC n a v else sumF n a h v
def holdF (n o : Nat) : Nat → Nat
  | 0 => 0
  | v + 1 => if Nat.beq (rotC n o v) o then holdF n o v ||| 2 ^ v else holdF n o v
def kneF (n a b o : Nat) : Bool := Nat.ble (popC (sumF n a (holdF n o n) n) + popC (sumF n b (holdF n o n) n)) (popC o + popC (holdF n o n))
def leafB (n a b o ca cb : Nat) : Bool :=
  Nat.beq (popC o) n || (aperL n o (asks n) && Nat.ble (ca + cb) (popC o + 1)) || kneF n a b o
def goB (n b cb : Nat) : List Nat → Nat → Nat → Nat → Nat → Bool
  | [], _, a, o, ca => Nat.beq a 0 || leafB n a b o ca cb
  | r :: R, w, a, o, ca => Nat.beq o (2 ^ n - 1) || (goB n b cb R (2 * w) a o ca && (match o ||| r with | 0 => goB n b cb R (2 * w) (a + w) 0 (ca + 1) | m + 1 => goB n b cb R (2 * w) (a + w) (m + 1) (ca + 1)))
def rots (n b : Nat) : Nat → Nat → List Nat
  | _, 0 => []
  | j, k + 1 => rotC n b j :: rots n b (j + 1) k
def leastB (n b : Nat) : Nat → Bool
  | 0 => true
  | v + 1 => Nat.ble b (rotC n b v) && leastB n b v
def oneB (n b : Nat) : Bool := !(leastB n b n && Nat.ble 1 b) || goB n b (popC b) (rots n b 0 n) 1 0 0 0
def spanB (n lo : Nat) : Nat → Bool
  | 0 => true
  | k + 1 => oneB n (lo + k) && spanB n lo k
theorem span_ok (n lo k : Nat) (h : spanB n lo k = true) (b : Nat) (h1 : lo ≤ b) (h2 : b < lo + k) : oneB n b = true := by
  induction k with
  | zero => omega
  | succ k ih =>
    have h' : (oneB n (lo + k) && spanB n lo k) = true := h
    rw [Bool.and_eq_true] at h'
    by_cases e : b = lo + k
    · rw [e]; exact h'.1
    · exact ih h'.2 (by omega)
end Go.Proofs.Ythccchelemnnfaa
