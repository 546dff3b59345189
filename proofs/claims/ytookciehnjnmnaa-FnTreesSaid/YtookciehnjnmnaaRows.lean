/-
  No cell of these rows narrows 'for every input' (looked for: loops, veiled, ifaces, maps, wideKeys, modest, calm, conditions, laid).
  DERIVED. THE GIVEN ROWS OF THIS SEAT. 6 by the template 'for every input the law returns true; each argument reads behind the call as it read before'; 0 by the template 'total and deterministic' (their statements: YtookciehnjnmnaaTotals.lean).
  GIVEN WITH THE SEED: the statements are not yours to turn. If you find one false, say at which input.
  Laid BY PROGRAM, IN A SANDBOX (cutbox-rows.mjs): the forced cells as the released guide's own fill.sh prints them over the translation 5664eff7d1511ac6… (all of the seat's roots in one cut). By AI agents, Wed Nov 11 2026. No macro, syntax, notation, axiom, sorry.
-/
import Derived.Test.YtookciehnjnmnaaChecked
import GoSem.Claim
import GoSem.ClaimJoined
import GoSem.ClaimMapViews
import Derived.JoinedTies
import Derived.KernelRfl
namespace Go.Proofs.Ytookciehnjnmnaa
/- THE CELL 'sum', in the pinned program and in every row, IS THE sha256 OF THE DUMP (.gsa) THAT YtookciehnjnmnaaProg.lean LOADS. Nothing in Lean hashes anything: it is a label: what it is worth is what the hold of that sum in a sandbox is worth. -/
noncomputable def Try.pinned : Pinned := { name := "ytookciehnjnmnaa", sum := "5664eff7d1511ac639f24b4b1942ef821775e1d928843d6fdf976d54dc1f69fb", checked := Try.checked }
namespace Rows
def none {H : Type} : Left H := { results := [], args := [] }

/-- 'laws.FnFullTurns': WHATEVER THE INPUT: true; the input reads as it did. -/
def fnFullTurnsSpec : ChangeSpec := { name := "fnFullTurns", fn := fun _ => fun
  | [d] => { results := [.lit (.bool true)], args := [d] }
  | _ => none }
def fnFullTurnsRow : OpenClaim := { program := "ytookciehnjnmnaa", sum := "5664eff7d1511ac639f24b4b1942ef821775e1d928843d6fdf976d54dc1f69fb", func := "loop.example/ringsofsteps/laws.FnFullTurns", spec := "fnFullTurns", unfollowed := true, recurses := true, apart := false }
def FnFullTurnsSaid : Prop := fnFullTurnsRow.holds Try.pinned (OpenSpec.ofChange fnFullTurnsSpec)

/-- ITS FALSE NEIGHBOUR: 'it returns false'. Refute it at one input. -/
def fnFullTurnsWrong : ChangeSpec := { name := "fnFullTurns", fn := fun _ => fun
  | [d] => { results := [.lit (.bool false)], args := [d] }
  | _ => none }
def FnFullTurnsWrongFalsely : Prop := fnFullTurnsRow.holds Try.pinned (OpenSpec.ofChange fnFullTurnsWrong)

/-- 'laws.FnTurnsMinus': WHATEVER THE INPUT: true; the input reads as it did. -/
def fnTurnsMinusSpec : ChangeSpec := { name := "fnTurnsMinus", fn := fun _ => fun
  | [d] => { results := [.lit (.bool true)], args := [d] }
  | _ => none }
def fnTurnsMinusRow : OpenClaim := { program := "ytookciehnjnmnaa", sum := "5664eff7d1511ac639f24b4b1942ef821775e1d928843d6fdf976d54dc1f69fb", func := "loop.example/ringsofsteps/laws.FnTurnsMinus", spec := "fnTurnsMinus", unfollowed := true, recurses := true, apart := false }
def FnTurnsMinusSaid : Prop := fnTurnsMinusRow.holds Try.pinned (OpenSpec.ofChange fnTurnsMinusSpec)

/-- ITS FALSE NEIGHBOUR: 'it returns false'. Refute it at one input. -/
def fnTurnsMinusWrong : ChangeSpec := { name := "fnTurnsMinus", fn := fun _ => fun
  | [d] => { results := [.lit (.bool false)], args := [d] }
  | _ => none }
def FnTurnsMinusWrongFalsely : Prop := fnTurnsMinusRow.holds Try.pinned (OpenSpec.ofChange fnTurnsMinusWrong)

/-- 'laws.FnTrees': WHATEVER THE INPUT: true; the input reads as it did. -/
def fnTreesSpec : ChangeSpec := { name := "fnTrees", fn := fun _ => fun
  | [d] => { results := [.lit (.bool true)], args := [d] }
  | _ => none }
def fnTreesRow : OpenClaim := { program := "ytookciehnjnmnaa", sum := "5664eff7d1511ac639f24b4b1942ef821775e1d928843d6fdf976d54dc1f69fb", func := "loop.example/ringsofsteps/laws.FnTrees", spec := "fnTrees", unfollowed := true, recurses := true, apart := false }
def FnTreesSaid : Prop := fnTreesRow.holds Try.pinned (OpenSpec.ofChange fnTreesSpec)

/-- ITS FALSE NEIGHBOUR: 'it returns false'. Refute it at one input. -/
def fnTreesWrong : ChangeSpec := { name := "fnTrees", fn := fun _ => fun
  | [d] => { results := [.lit (.bool false)], args := [d] }
  | _ => none }
def FnTreesWrongFalsely : Prop := fnTreesRow.holds Try.pinned (OpenSpec.ofChange fnTreesWrong)

/-- 'laws.FnTreesOne': WHATEVER THE INPUT: true; the input reads as it did. -/
def fnTreesOneSpec : ChangeSpec := { name := "fnTreesOne", fn := fun _ => fun
  | [d] => { results := [.lit (.bool true)], args := [d] }
  | _ => none }
def fnTreesOneRow : OpenClaim := { program := "ytookciehnjnmnaa", sum := "5664eff7d1511ac639f24b4b1942ef821775e1d928843d6fdf976d54dc1f69fb", func := "loop.example/ringsofsteps/laws.FnTreesOne", spec := "fnTreesOne", unfollowed := true, recurses := true, apart := false }
def FnTreesOneSaid : Prop := fnTreesOneRow.holds Try.pinned (OpenSpec.ofChange fnTreesOneSpec)

/-- ITS FALSE NEIGHBOUR: 'it returns false'. Refute it at one input. -/
def fnTreesOneWrong : ChangeSpec := { name := "fnTreesOne", fn := fun _ => fun
  | [d] => { results := [.lit (.bool false)], args := [d] }
  | _ => none }
def FnTreesOneWrongFalsely : Prop := fnTreesOneRow.holds Try.pinned (OpenSpec.ofChange fnTreesOneWrong)

/-- 'laws.FnSquares': WHATEVER THE INPUT: true; the input reads as it did. -/
def fnSquaresSpec : ChangeSpec := { name := "fnSquares", fn := fun _ => fun
  | [d] => { results := [.lit (.bool true)], args := [d] }
  | _ => none }
def fnSquaresRow : OpenClaim := { program := "ytookciehnjnmnaa", sum := "5664eff7d1511ac639f24b4b1942ef821775e1d928843d6fdf976d54dc1f69fb", func := "loop.example/ringsofsteps/laws.FnSquares", spec := "fnSquares", unfollowed := true, recurses := true, apart := false }
def FnSquaresSaid : Prop := fnSquaresRow.holds Try.pinned (OpenSpec.ofChange fnSquaresSpec)

/-- ITS FALSE NEIGHBOUR: 'it returns false'. Refute it at one input. -/
def fnSquaresWrong : ChangeSpec := { name := "fnSquares", fn := fun _ => fun
  | [d] => { results := [.lit (.bool false)], args := [d] }
  | _ => none }
def FnSquaresWrongFalsely : Prop := fnSquaresRow.holds Try.pinned (OpenSpec.ofChange fnSquaresWrong)

/-- 'laws.FnWalkFull': WHATEVER THE INPUT: true; the input reads as it did. -/
def fnWalkFullSpec : ChangeSpec := { name := "fnWalkFull", fn := fun _ => fun
  | [d] => { results := [.lit (.bool true)], args := [d] }
  | _ => none }
def fnWalkFullRow : OpenClaim := { program := "ytookciehnjnmnaa", sum := "5664eff7d1511ac639f24b4b1942ef821775e1d928843d6fdf976d54dc1f69fb", func := "loop.example/ringsofsteps/laws.FnWalkFull", spec := "fnWalkFull", unfollowed := true, recurses := true, apart := false }
def FnWalkFullSaid : Prop := fnWalkFullRow.holds Try.pinned (OpenSpec.ofChange fnWalkFullSpec)

/-- ITS FALSE NEIGHBOUR: 'it returns false'. Refute it at one input. -/
def fnWalkFullWrong : ChangeSpec := { name := "fnWalkFull", fn := fun _ => fun
  | [d] => { results := [.lit (.bool false)], args := [d] }
  | _ => none }
def FnWalkFullWrongFalsely : Prop := fnWalkFullRow.holds Try.pinned (OpenSpec.ofChange fnWalkFullWrong)

/- THE SECOND FORM. 'bulk': how many values and letters a reading holds, each counted each time it is reached (what is shared counts as often as it is met; a slice's spare places count too). A statement '..UptoSaid' is the law's where the arguments, and the package variables that the reading takes, are together of bulk at most 1048576: NARROWER than '..Said'. Prove '..Said' where nothing that the law and all that it calls make is longer than what came in: it says more and counts as full. Else prove '..UptoSaid'. A law counts once. -/
mutual
def uptoBulk {H : Type} : DataW H → Nat
  | .lit (.string bytes) => bytes.length + 1
  | .lit _ => 1
  | .nil => 1
  | .ptr d => uptoBulk d + 1
  | .slice elems spare => uptoBulkAll elems + uptoBulkAll spare + 1
  | .agg parts => uptoBulkAll parts + 1
  | .iface _ d => uptoBulk d + 1
  | .map entries => uptoBulkEntries entries + 1
  | .held _ => 1
def uptoBulkAll {H : Type} : List (DataW H) → Nat
  | [] => 0
  | d :: r => uptoBulk d + uptoBulkAll r
def uptoBulkEntries {H : Type} : List (Lit × DataW H) → Nat
  | [] => 0
  | x :: r => uptoBulkEntry x + uptoBulkEntries r
def uptoBulkEntry {H : Type} : Lit × DataW H → Nat
  | (.string bytes, d) => bytes.length + uptoBulk d + 1
  | (_, d) => uptoBulk d + 1
 end
def uptoSmall : (H : Type) → List (DataW H) → Bool := fun _ ds => decide (uptoBulkAll ds ≤ 1048576)
def OpenSpec.upto (s : _root_.Go.ChangeSpec) : _root_.Go.OpenSpec := { _root_.Go.OpenSpec.ofChange s with cond := some uptoSmall }

/-- 'laws.FnFullTurns', WHERE WHAT IT READS IS OF BULK AT MOST 1048576: true; the input reads as it did. -/
def fnFullTurnsUptoRow : OpenClaim := { program := "ytookciehnjnmnaa", sum := "5664eff7d1511ac639f24b4b1942ef821775e1d928843d6fdf976d54dc1f69fb", func := "loop.example/ringsofsteps/laws.FnFullTurns", spec := "fnFullTurns", unfollowed := true, recurses := true, apart := false, narrowed := true }
def FnFullTurnsUptoSaid : Prop := fnFullTurnsUptoRow.holds Try.pinned (OpenSpec.upto fnFullTurnsSpec)

/-- 'laws.FnTurnsMinus', WHERE WHAT IT READS IS OF BULK AT MOST 1048576: true; the input reads as it did. -/
def fnTurnsMinusUptoRow : OpenClaim := { program := "ytookciehnjnmnaa", sum := "5664eff7d1511ac639f24b4b1942ef821775e1d928843d6fdf976d54dc1f69fb", func := "loop.example/ringsofsteps/laws.FnTurnsMinus", spec := "fnTurnsMinus", unfollowed := true, recurses := true, apart := false, narrowed := true }
def FnTurnsMinusUptoSaid : Prop := fnTurnsMinusUptoRow.holds Try.pinned (OpenSpec.upto fnTurnsMinusSpec)

/-- 'laws.FnTrees', WHERE WHAT IT READS IS OF BULK AT MOST 1048576: true; the input reads as it did. -/
def fnTreesUptoRow : OpenClaim := { program := "ytookciehnjnmnaa", sum := "5664eff7d1511ac639f24b4b1942ef821775e1d928843d6fdf976d54dc1f69fb", func := "loop.example/ringsofsteps/laws.FnTrees", spec := "fnTrees", unfollowed := true, recurses := true, apart := false, narrowed := true }
def FnTreesUptoSaid : Prop := fnTreesUptoRow.holds Try.pinned (OpenSpec.upto fnTreesSpec)

/-- 'laws.FnTreesOne', WHERE WHAT IT READS IS OF BULK AT MOST 1048576: true; the input reads as it did. -/
def fnTreesOneUptoRow : OpenClaim := { program := "ytookciehnjnmnaa", sum := "5664eff7d1511ac639f24b4b1942ef821775e1d928843d6fdf976d54dc1f69fb", func := "loop.example/ringsofsteps/laws.FnTreesOne", spec := "fnTreesOne", unfollowed := true, recurses := true, apart := false, narrowed := true }
def FnTreesOneUptoSaid : Prop := fnTreesOneUptoRow.holds Try.pinned (OpenSpec.upto fnTreesOneSpec)

/-- 'laws.FnSquares', WHERE WHAT IT READS IS OF BULK AT MOST 1048576: true; the input reads as it did. -/
def fnSquaresUptoRow : OpenClaim := { program := "ytookciehnjnmnaa", sum := "5664eff7d1511ac639f24b4b1942ef821775e1d928843d6fdf976d54dc1f69fb", func := "loop.example/ringsofsteps/laws.FnSquares", spec := "fnSquares", unfollowed := true, recurses := true, apart := false, narrowed := true }
def FnSquaresUptoSaid : Prop := fnSquaresUptoRow.holds Try.pinned (OpenSpec.upto fnSquaresSpec)

/-- 'laws.FnWalkFull', WHERE WHAT IT READS IS OF BULK AT MOST 1048576: true; the input reads as it did. -/
def fnWalkFullUptoRow : OpenClaim := { program := "ytookciehnjnmnaa", sum := "5664eff7d1511ac639f24b4b1942ef821775e1d928843d6fdf976d54dc1f69fb", func := "loop.example/ringsofsteps/laws.FnWalkFull", spec := "fnWalkFull", unfollowed := true, recurses := true, apart := false, narrowed := true }
def FnWalkFullUptoSaid : Prop := fnWalkFullUptoRow.holds Try.pinned (OpenSpec.upto fnWalkFullSpec)

end Rows
end Go.Proofs.Ytookciehnjnmnaa
