/- Trees of steps: the determinant of degrees less edges, as lists of rows; on every ring of at most 11 places by all even steps, gone through one by one. -/
import Derived.Test.YtookciehnjnmnaaGC
namespace Go.Proofs.Ytookciehnjnmnaa
set_option linter.unusedVariables false
/-- The last row that begins with no 0, and the rows with the first one in its place. -/
def headI (r : List Int) : Int := r.headD 0
def lastRow : List (List Int) → Option (List Int)
  | [] => none
  | r :: l => match lastRow l with
    | some q => some q
    | none => if headI r = 0 then none else some r
def putRow (x : List Int) : List (List Int) → List (List Int)
  | [] => []
  | r :: l => match lastRow l with
    | some _ => r :: putRow x l
    | none => if headI r = 0 then r :: putRow x l else x :: l
def crossRow (p last a : Int) : List Int → List Int → List Int
  | y :: l, z :: m => Int.tdiv (y * p - z * a) last :: crossRow p last a l m
  | _, _ => []
def restRows (p last : Int) (q : List Int) : List (List Int) → List (List Int)
  | [] => []
  | r :: l => crossRow p last (headI r) r.tail q :: restRows p last q l
def detF : Nat → Int → Int → List (List Int) → Int
  | 0, last, sign, _ => sign * last
  | _ + 1, last, sign, [] => sign * last
  | k + 1, last, sign, r :: l => match lastRow l with
    | some q => detF k (headI q) (0 - sign) (restRows (headI q) last q.tail (putRow r l))
    | none => if headI r = 0 then 0 else detF k (headI r) sign (restRows (headI r) last r.tail l)
def rowT (n b v : Nat) (deg : Int) : Nat → Nat → List Int
  | _, 0 => []
  | w, k + 1 => (if w = v then deg else if b.testBit ((w + n - v) % n) then -1 else 0) :: rowT n b v deg (w + 1) k
def rowsT (n b : Nat) (deg : Int) : Nat → Nat → List (List Int)
  | _, 0 => []
  | v, k + 1 => rowT n b v deg 1 (n - 1) :: rowsT n b deg (v + 1) k
def countT (b : Nat) : Nat → Nat
  | 0 => 0
  | k + 1 => countT b k + (if b.testBit k then 1 else 0)
def treeN (n b : Nat) : Int := detF n 1 1 (rowsT n b (countT b n : Nat) 1 (n - 1))
def evenT (n b : Nat) : Nat → Bool
  | 0 => true
  | k + 1 => (b.testBit k == b.testBit ((n - k) % n)) && evenT n b k
/-- What the promises say of trees by even steps. -/
def treeB (n b : Nat) : Bool :=
  !evenT n b n || (let t := treeN n b
    ((t == 0) == Nat.blt 1 (partsN n b)) && (!(Nat.beq (countT b n + 1) n) || t == ((n ^ (n - 2) : Nat) : Int)) && decide (0 ≤ t) && (!(Nat.beq (countT b n) 2 && !(n % 2 == 0 && b.testBit (n / 2)) && Nat.beq (partsN n b) 1) || t == (n : Int)))
def spanT (n lo : Nat) : Nat → Bool
  | 0 => true
  | k + 1 => treeB n (2 * (lo + k)) && spanT n lo k
end Go.Proofs.Ytookciehnjnmnaa
