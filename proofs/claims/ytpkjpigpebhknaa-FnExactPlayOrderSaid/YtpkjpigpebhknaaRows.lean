/-
  No cell of these rows narrows 'for every input' (looked for: loops, veiled, ifaces, maps, wideKeys, modest, calm, conditions, laid).
  DERIVED. THE GIVEN ROWS OF THIS SEAT. 7 by the template 'for every input the law returns true; each argument reads behind the call as it read before'; 0 by the template 'total and deterministic' (their statements: YtpkjpigpebhknaaTotals.lean).
  GIVEN WITH THE SEED: the statements are not yours to turn. If you find one false, say at which input.
  Laid BY PROGRAM, IN A SANDBOX (cutbox-rows.mjs): the forced cells as the released guide's own fill.sh prints them over the translation a5da30ed81aeccf6… (all of the seat's roots in one cut). By AI agents, Wed Nov 11 2026. No macro, syntax, notation, axiom, sorry.
-/
import Derived.Test.YtpkjpigpebhknaaChecked
import GoSem.Claim
import GoSem.ClaimJoined
import GoSem.ClaimMapViews
import Derived.JoinedTies
import Derived.KernelRfl
namespace Go.Proofs.Ytpkjpigpebhknaa
/- THE CELL 'sum', in the pinned program and in every row, IS THE sha256 OF THE DUMP (.gsa) THAT YtpkjpigpebhknaaProg.lean LOADS. Nothing in Lean hashes anything: it is a label: what it is worth is what the hold of that sum in a sandbox is worth. -/
noncomputable def Try.pinned : Pinned := { name := "ytpkjpigpebhknaa", sum := "a5da30ed81aeccf6bee107cdeeaeb6bc47b1a23a35fef3f36935114bf09ed65f", checked := Try.checked }
namespace Rows
def none {H : Type} : Left H := { results := [], args := [] }

/-- 'laws.FnExactPlayIn': WHATEVER THE INPUT: true; the input reads as it did. -/
def fnExactPlayInSpec : ChangeSpec := { name := "fnExactPlayIn", fn := fun _ => fun
  | [d1, d2] => { results := [.lit (.bool true)], args := [d1, d2] }
  | _ => none }
def fnExactPlayInRow : OpenClaim := { program := "ytpkjpigpebhknaa", sum := "a5da30ed81aeccf6bee107cdeeaeb6bc47b1a23a35fef3f36935114bf09ed65f", func := "loop.example/ringsofsteps/laws.FnExactPlayIn", spec := "fnExactPlayIn", unfollowed := true, recurses := true, apart := false }
def FnExactPlayInSaid : Prop := fnExactPlayInRow.holds Try.pinned (OpenSpec.ofChange fnExactPlayInSpec)

/-- ITS FALSE NEIGHBOUR: 'it returns false'. Refute it at one input. -/
def fnExactPlayInWrong : ChangeSpec := { name := "fnExactPlayIn", fn := fun _ => fun
  | [d1, d2] => { results := [.lit (.bool false)], args := [d1, d2] }
  | _ => none }
def FnExactPlayInWrongFalsely : Prop := fnExactPlayInRow.holds Try.pinned (OpenSpec.ofChange fnExactPlayInWrong)

/-- 'laws.FnExactPlayAll': WHATEVER THE INPUT: true; the input reads as it did. -/
def fnExactPlayAllSpec : ChangeSpec := { name := "fnExactPlayAll", fn := fun _ => fun
  | [d] => { results := [.lit (.bool true)], args := [d] }
  | _ => none }
def fnExactPlayAllRow : OpenClaim := { program := "ytpkjpigpebhknaa", sum := "a5da30ed81aeccf6bee107cdeeaeb6bc47b1a23a35fef3f36935114bf09ed65f", func := "loop.example/ringsofsteps/laws.FnExactPlayAll", spec := "fnExactPlayAll", unfollowed := true, recurses := true, apart := false }
def FnExactPlayAllSaid : Prop := fnExactPlayAllRow.holds Try.pinned (OpenSpec.ofChange fnExactPlayAllSpec)

/-- ITS FALSE NEIGHBOUR: 'it returns false'. Refute it at one input. -/
def fnExactPlayAllWrong : ChangeSpec := { name := "fnExactPlayAll", fn := fun _ => fun
  | [d] => { results := [.lit (.bool false)], args := [d] }
  | _ => none }
def FnExactPlayAllWrongFalsely : Prop := fnExactPlayAllRow.holds Try.pinned (OpenSpec.ofChange fnExactPlayAllWrong)

/-- 'laws.FnExactPlayThree': WHATEVER THE INPUT: true; the input reads as it did. -/
def fnExactPlayThreeSpec : ChangeSpec := { name := "fnExactPlayThree", fn := fun _ => fun
  | [d1, d2] => { results := [.lit (.bool true)], args := [d1, d2] }
  | _ => none }
def fnExactPlayThreeRow : OpenClaim := { program := "ytpkjpigpebhknaa", sum := "a5da30ed81aeccf6bee107cdeeaeb6bc47b1a23a35fef3f36935114bf09ed65f", func := "loop.example/ringsofsteps/laws.FnExactPlayThree", spec := "fnExactPlayThree", unfollowed := true, recurses := true, apart := false }
def FnExactPlayThreeSaid : Prop := fnExactPlayThreeRow.holds Try.pinned (OpenSpec.ofChange fnExactPlayThreeSpec)

/-- ITS FALSE NEIGHBOUR: 'it returns false'. Refute it at one input. -/
def fnExactPlayThreeWrong : ChangeSpec := { name := "fnExactPlayThree", fn := fun _ => fun
  | [d1, d2] => { results := [.lit (.bool false)], args := [d1, d2] }
  | _ => none }
def FnExactPlayThreeWrongFalsely : Prop := fnExactPlayThreeRow.holds Try.pinned (OpenSpec.ofChange fnExactPlayThreeWrong)

/-- 'laws.FnExactPlayTwice': WHATEVER THE INPUT: true; the input reads as it did. -/
def fnExactPlayTwiceSpec : ChangeSpec := { name := "fnExactPlayTwice", fn := fun _ => fun
  | [d1, d2] => { results := [.lit (.bool true)], args := [d1, d2] }
  | _ => none }
def fnExactPlayTwiceRow : OpenClaim := { program := "ytpkjpigpebhknaa", sum := "a5da30ed81aeccf6bee107cdeeaeb6bc47b1a23a35fef3f36935114bf09ed65f", func := "loop.example/ringsofsteps/laws.FnExactPlayTwice", spec := "fnExactPlayTwice", unfollowed := true, recurses := true, apart := false }
def FnExactPlayTwiceSaid : Prop := fnExactPlayTwiceRow.holds Try.pinned (OpenSpec.ofChange fnExactPlayTwiceSpec)

/-- ITS FALSE NEIGHBOUR: 'it returns false'. Refute it at one input. -/
def fnExactPlayTwiceWrong : ChangeSpec := { name := "fnExactPlayTwice", fn := fun _ => fun
  | [d1, d2] => { results := [.lit (.bool false)], args := [d1, d2] }
  | _ => none }
def FnExactPlayTwiceWrongFalsely : Prop := fnExactPlayTwiceRow.holds Try.pinned (OpenSpec.ofChange fnExactPlayTwiceWrong)

/-- 'laws.FnExactPlayEqual': WHATEVER THE INPUT: true; the input reads as it did. -/
def fnExactPlayEqualSpec : ChangeSpec := { name := "fnExactPlayEqual", fn := fun _ => fun
  | [d1, d2] => { results := [.lit (.bool true)], args := [d1, d2] }
  | _ => none }
def fnExactPlayEqualRow : OpenClaim := { program := "ytpkjpigpebhknaa", sum := "a5da30ed81aeccf6bee107cdeeaeb6bc47b1a23a35fef3f36935114bf09ed65f", func := "loop.example/ringsofsteps/laws.FnExactPlayEqual", spec := "fnExactPlayEqual", unfollowed := true, recurses := true, apart := false }
def FnExactPlayEqualSaid : Prop := fnExactPlayEqualRow.holds Try.pinned (OpenSpec.ofChange fnExactPlayEqualSpec)

/-- ITS FALSE NEIGHBOUR: 'it returns false'. Refute it at one input. -/
def fnExactPlayEqualWrong : ChangeSpec := { name := "fnExactPlayEqual", fn := fun _ => fun
  | [d1, d2] => { results := [.lit (.bool false)], args := [d1, d2] }
  | _ => none }
def FnExactPlayEqualWrongFalsely : Prop := fnExactPlayEqualRow.holds Try.pinned (OpenSpec.ofChange fnExactPlayEqualWrong)

/-- 'laws.FnExactPlayClasses': WHATEVER THE INPUT: true; the input reads as it did. -/
def fnExactPlayClassesSpec : ChangeSpec := { name := "fnExactPlayClasses", fn := fun _ => fun
  | [d] => { results := [.lit (.bool true)], args := [d] }
  | _ => none }
def fnExactPlayClassesRow : OpenClaim := { program := "ytpkjpigpebhknaa", sum := "a5da30ed81aeccf6bee107cdeeaeb6bc47b1a23a35fef3f36935114bf09ed65f", func := "loop.example/ringsofsteps/laws.FnExactPlayClasses", spec := "fnExactPlayClasses", unfollowed := true, recurses := true, apart := false }
def FnExactPlayClassesSaid : Prop := fnExactPlayClassesRow.holds Try.pinned (OpenSpec.ofChange fnExactPlayClassesSpec)

/-- ITS FALSE NEIGHBOUR: 'it returns false'. Refute it at one input. -/
def fnExactPlayClassesWrong : ChangeSpec := { name := "fnExactPlayClasses", fn := fun _ => fun
  | [d] => { results := [.lit (.bool false)], args := [d] }
  | _ => none }
def FnExactPlayClassesWrongFalsely : Prop := fnExactPlayClassesRow.holds Try.pinned (OpenSpec.ofChange fnExactPlayClassesWrong)

/-- 'laws.FnExactPlayOrder': WHATEVER THE INPUT: true; the input reads as it did. -/
def fnExactPlayOrderSpec : ChangeSpec := { name := "fnExactPlayOrder", fn := fun _ => fun
  | [d1, d2] => { results := [.lit (.bool true)], args := [d1, d2] }
  | _ => none }
def fnExactPlayOrderRow : OpenClaim := { program := "ytpkjpigpebhknaa", sum := "a5da30ed81aeccf6bee107cdeeaeb6bc47b1a23a35fef3f36935114bf09ed65f", func := "loop.example/ringsofsteps/laws.FnExactPlayOrder", spec := "fnExactPlayOrder", unfollowed := true, recurses := true, apart := false }
def FnExactPlayOrderSaid : Prop := fnExactPlayOrderRow.holds Try.pinned (OpenSpec.ofChange fnExactPlayOrderSpec)

/-- ITS FALSE NEIGHBOUR: 'it returns false'. Refute it at one input. -/
def fnExactPlayOrderWrong : ChangeSpec := { name := "fnExactPlayOrder", fn := fun _ => fun
  | [d1, d2] => { results := [.lit (.bool false)], args := [d1, d2] }
  | _ => none }
def FnExactPlayOrderWrongFalsely : Prop := fnExactPlayOrderRow.holds Try.pinned (OpenSpec.ofChange fnExactPlayOrderWrong)

/- THE SECOND FORM. 'bulk': how many values and letters a reading holds, each counted each time it is reached (what is shared counts as often as it is met; a slice's spare places count too). A statement '..UptoSaid' is the law's where the arguments, and the package variables that the reading takes, are together of bulk at most 1048576: NARROWER than '..Said'. Prove '..Said' where nothing that the law and all that it calls make is longer than what came in: it says more and counts as full. Else prove '..UptoSaid'. A law counts once. -/
mutual
def uptoBulk {H : Type} : DataW H → Nat
  | .lit (.string bytes) => bytes.length + 1
  | .lit _ => 1
  | .nil => 1
  | .ptr d => uptoBulk d + 1
  | .slice elems spare => uptoBulkAll elems + uptoBulkAll spare + 1
  | .agg parts => uptoBulkAll parts + 1
  | .iface _ d => uptoBulk d + 1
  | .map entries => uptoBulkEntries entries + 1
  | .held _ => 1
def uptoBulkAll {H : Type} : List (DataW H) → Nat
  | [] => 0
  | d :: r => uptoBulk d + uptoBulkAll r
def uptoBulkEntries {H : Type} : List (Lit × DataW H) → Nat
  | [] => 0
  | x :: r => uptoBulkEntry x + uptoBulkEntries r
def uptoBulkEntry {H : Type} : Lit × DataW H → Nat
  | (.string bytes, d) => bytes.length + uptoBulk d + 1
  | (_, d) => uptoBulk d + 1
 end
def uptoSmall : (H : Type) → List (DataW H) → Bool := fun _ ds => decide (uptoBulkAll ds ≤ 1048576)
def OpenSpec.upto (s : _root_.Go.ChangeSpec) : _root_.Go.OpenSpec := { _root_.Go.OpenSpec.ofChange s with cond := some uptoSmall }

/-- 'laws.FnExactPlayIn', WHERE WHAT IT READS IS OF BULK AT MOST 1048576: true; the input reads as it did. -/
def fnExactPlayInUptoRow : OpenClaim := { program := "ytpkjpigpebhknaa", sum := "a5da30ed81aeccf6bee107cdeeaeb6bc47b1a23a35fef3f36935114bf09ed65f", func := "loop.example/ringsofsteps/laws.FnExactPlayIn", spec := "fnExactPlayIn", unfollowed := true, recurses := true, apart := false, narrowed := true }
def FnExactPlayInUptoSaid : Prop := fnExactPlayInUptoRow.holds Try.pinned (OpenSpec.upto fnExactPlayInSpec)

/-- 'laws.FnExactPlayAll', WHERE WHAT IT READS IS OF BULK AT MOST 1048576: true; the input reads as it did. -/
def fnExactPlayAllUptoRow : OpenClaim := { program := "ytpkjpigpebhknaa", sum := "a5da30ed81aeccf6bee107cdeeaeb6bc47b1a23a35fef3f36935114bf09ed65f", func := "loop.example/ringsofsteps/laws.FnExactPlayAll", spec := "fnExactPlayAll", unfollowed := true, recurses := true, apart := false, narrowed := true }
def FnExactPlayAllUptoSaid : Prop := fnExactPlayAllUptoRow.holds Try.pinned (OpenSpec.upto fnExactPlayAllSpec)

/-- 'laws.FnExactPlayThree', WHERE WHAT IT READS IS OF BULK AT MOST 1048576: true; the input reads as it did. -/
def fnExactPlayThreeUptoRow : OpenClaim := { program := "ytpkjpigpebhknaa", sum := "a5da30ed81aeccf6bee107cdeeaeb6bc47b1a23a35fef3f36935114bf09ed65f", func := "loop.example/ringsofsteps/laws.FnExactPlayThree", spec := "fnExactPlayThree", unfollowed := true, recurses := true, apart := false, narrowed := true }
def FnExactPlayThreeUptoSaid : Prop := fnExactPlayThreeUptoRow.holds Try.pinned (OpenSpec.upto fnExactPlayThreeSpec)

/-- 'laws.FnExactPlayTwice', WHERE WHAT IT READS IS OF BULK AT MOST 1048576: true; the input reads as it did. -/
def fnExactPlayTwiceUptoRow : OpenClaim := { program := "ytpkjpigpebhknaa", sum := "a5da30ed81aeccf6bee107cdeeaeb6bc47b1a23a35fef3f36935114bf09ed65f", func := "loop.example/ringsofsteps/laws.FnExactPlayTwice", spec := "fnExactPlayTwice", unfollowed := true, recurses := true, apart := false, narrowed := true }
def FnExactPlayTwiceUptoSaid : Prop := fnExactPlayTwiceUptoRow.holds Try.pinned (OpenSpec.upto fnExactPlayTwiceSpec)

/-- 'laws.FnExactPlayEqual', WHERE WHAT IT READS IS OF BULK AT MOST 1048576: true; the input reads as it did. -/
def fnExactPlayEqualUptoRow : OpenClaim := { program := "ytpkjpigpebhknaa", sum := "a5da30ed81aeccf6bee107cdeeaeb6bc47b1a23a35fef3f36935114bf09ed65f", func := "loop.example/ringsofsteps/laws.FnExactPlayEqual", spec := "fnExactPlayEqual", unfollowed := true, recurses := true, apart := false, narrowed := true }
def FnExactPlayEqualUptoSaid : Prop := fnExactPlayEqualUptoRow.holds Try.pinned (OpenSpec.upto fnExactPlayEqualSpec)

/-- 'laws.FnExactPlayClasses', WHERE WHAT IT READS IS OF BULK AT MOST 1048576: true; the input reads as it did. -/
def fnExactPlayClassesUptoRow : OpenClaim := { program := "ytpkjpigpebhknaa", sum := "a5da30ed81aeccf6bee107cdeeaeb6bc47b1a23a35fef3f36935114bf09ed65f", func := "loop.example/ringsofsteps/laws.FnExactPlayClasses", spec := "fnExactPlayClasses", unfollowed := true, recurses := true, apart := false, narrowed := true }
def FnExactPlayClassesUptoSaid : Prop := fnExactPlayClassesUptoRow.holds Try.pinned (OpenSpec.upto fnExactPlayClassesSpec)

/-- 'laws.FnExactPlayOrder', WHERE WHAT IT READS IS OF BULK AT MOST 1048576: true; the input reads as it did. -/
def fnExactPlayOrderUptoRow : OpenClaim := { program := "ytpkjpigpebhknaa", sum := "a5da30ed81aeccf6bee107cdeeaeb6bc47b1a23a35fef3f36935114bf09ed65f", func := "loop.example/ringsofsteps/laws.FnExactPlayOrder", spec := "fnExactPlayOrder", unfollowed := true, recurses := true, apart := false, narrowed := true }
def FnExactPlayOrderUptoSaid : Prop := fnExactPlayOrderUptoRow.holds Try.pinned (OpenSpec.upto fnExactPlayOrderSpec)

end Rows
end Go.Proofs.Ytpkjpigpebhknaa
